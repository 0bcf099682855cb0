/- The document's Told of layer 20. The program's Clear and Choose of layer 20, and slices.ContainsFunc of entries. The program's Encode of layer 20. The program's Body of layer 21. The program's carried of layer 24. -/
import Derived.Test.YtnojgejcmaajmaaGreatDoorJsb27

namespace Go.Proofs.YtnojgejcmaajmaaGreatDoor
open Go.RowKit
set_option maxRecDepth 100000
theorem low5 {B : Nat} {a b : World} (h : Below B a b) {n : Nat} (hn : B ≤ n) (u0 u1 u2 u3 u4 : Value) : Below B a (((((b.setCell ⟨n, 0, none⟩ u0).setCell ⟨n, 1, none⟩ u1).setCell ⟨n, 2, none⟩ u2).setCell ⟨n, 3, none⟩ u3).setCell ⟨n, 4, none⟩ u4) :=
  ((((h.setCell (p := ⟨n, 0, none⟩) hn _).setCell (p := ⟨n, 1, none⟩) hn _).setCell (p := ⟨n, 2, none⟩) hn _).setCell (p := ⟨n, 3, none⟩) hn _).setCell (p := ⟨n, 4, none⟩) hn _
theorem Bk.drewC {w : World} {n : Nat} {cs : List Value} {t : TypeId} (h : Bk w n cs t) : Bk w.drew n cs t := ⟨h.lies⟩
theorem belDC {B : Nat} {a w : World} (h : Below B a w) : Below B a w.drew := ⟨h.os, h.tape, h.output, h.size, h.block⟩
theorem EnAt.drewC {w : World} {b o : Nat} {e : En} (h : EnAt w b o e) : EnAt w.drew b o e := h.below ⟨rfl, rfl, rfl, Nat.le_refl _, fun _ _ => rfl⟩
end Go.Proofs.YtnojgejcmaajmaaGreatDoor

namespace Go.Proofs.YtnojgejcmaajmaaGreatDoor
open Go.RowKit
set_option maxRecDepth 100000
/-- A function value that answers p of the entries of a list, in every later world. -/
def PredE (g : Nat) (lb : Array Value) (p : En → Bool) (l : List En) (w : World) : Prop :=
  ∀ (W : World) (x : En), x ∈ l → Below w.heap.size w W → Calls Tryz.prog g (#[.agg #[.string x.name, .string x.val, .bool x.file, .string x.fname, .string x.typ]] ++ lb) W fun e w' => e = .returned (.bool (p x)) ∧ Below W.heap.size W w'
theorem idxE_hit {ax : List En} {p : En → Bool} {k : Nat} (h : k < ax.length) (hp : p ax[k] = true) (hd : ∀ j (hj : j < ax.length), j < k → p ax[j] = false) : ax.findIdx? p = some k := by
  rw [List.findIdx?_eq_some_iff_getElem]
  exact ⟨h, hp, fun j hj => by rw [hd j (by omega) hj]; decide⟩
theorem idxE_miss {ax : List En} {p : En → Bool} (hd : ∀ j (hj : j < ax.length), p ax[j] = false) : ax.findIdx? p = none := by
  rw [List.findIdx?_eq_none_iff]
  intro x hx
  obtain ⟨j, hj, rfl⟩ := List.getElem_of_mem hx
  exact hd j hj
theorem findE_nonneg (o : Option Nat) : decide (0 ≤ findV o) = o.isSome := by
  cases o with
  | none => rfl
  | some k => exact decide_eq_true (by show (0 : Int) ≤ (k : Int); omega)
theorem idx_any {l : List En} {p : En → Bool} : (l.findIdx? p).isSome = l.any p := by
  rw [Bool.eq_iff_iff, List.findIdx?_isSome, List.any_eq_true]
set_option maxHeartbeats 8000000 in
theorem indexFuncE_any (v : Value) (ax : List En) (p : En → Bool) (g : Nat) (lb : Array Value) (eg : ∀ args w, (callFunc g args).run Tryz.prog w = .ok (.enter g args) w) (w : World) (hv : FilesV w v ax) (hp : PredE g lb p ax w) (hl : ax.length ≤ 4398046511104) :
    Calls Tryz.prog 227 #[v, .func (.func g) #[] lb] w fun e w' => e = .returned (.int .i64 (findV (ax.findIdx? p))) ∧ Below w.heap.size w w' := by
  have FV := hide hv
  obtain ⟨pp, c, rfl⟩ := files_formP hv
  have HIT := hide (fun k h h1 h2 => idxE_hit (ax := ax) (p := p) (k := k) h h1 h2)
  have MISS := hide (fun h => idxE_miss (ax := ax) (p := p) h)
  generalize ax.findIdx? p = R at *
  have HP := hide hp
  clear hp hv
  go_enter Tryz.func227, Tryz.ntmps227
  go_wp2_with fail
  go_loopw [8] (fun iv wr => ∃ k : Nat, k ≤ ax.length ∧ iv = .int .i64 k ∧ Hid (∀ j (hj : j < ax.length), j < k → p ax[j] = false) ∧ Hid (Below w.heap.size w wr)) (fun iv _ => ax.length - (intOf iv).toNat)
  case atStart => exact ⟨0, Nat.zero_le _, rfl, fun j _ q => by omega, Below.refl _ _⟩
  case round =>
    rename World => wr
    obtain ⟨k, hk, rfl, hd, BW⟩ := hrel
    by_cases h : k < ax.length
    · have i1 : (k : Int) < (ax.length : Int) := by omega
      have i0 : (0 : Int) ≤ (k : Int) := by omega
      obtain ⟨b, o, rfl, EA⟩ := en_of (FV.out.below BW.out) h
      have c0 := EA.c0
      have c1 := EA.c1
      have c2 := EA.c2
      have c3 := EA.c3
      have c4 := EA.c4
      have HC := hide (HP.out wr ax[k] (List.getElem_mem h) BW.out)
      have HK := hide (HIT.out k h)
      have ND := hide (fun q : p ax[k] = false => (fun j (hj : j < ax.length) (r : j < k + 1) => by
        rcases Nat.lt_or_ge j k with t | t
        · exact hd.out j hj t
        · obtain rfl : j = k := by omega
          exact q : ∀ j (hj : j < ax.length), j < k + 1 → p ax[j] = false))
      clear HP HIT MISS FV EA
      cases q : p ax[k] with
      | true =>
        have E := hide (HK.out q (fun j hj r => hd.out j hj r))
        rw [q] at HC
        clear HK ND q hd
        generalize ax[k].name = x1 at *
        generalize ax[k].val = x2 at *
        generalize ax[k].file = x3 at *
        generalize ax[k].fname = x4 at *
        generalize ax[k].typ = x5 at *
        go_wp2_with fail
        refine HC.out.mono ?_
        rintro e w' ⟨rfl, hb'⟩
        go_wp2_with fail
        go_ret
        exact ⟨by rw [E.out]; rfl, chain BW.out hb'⟩
      | false =>
        have E := hide (ND.out q)
        rw [q] at HC
        clear HK ND q hd
        generalize ax[k].name = x1 at *
        generalize ax[k].val = x2 at *
        generalize ax[k].file = x3 at *
        generalize ax[k].fname = x4 at *
        generalize ax[k].typ = x5 at *
        go_wp2_with fail
        refine HC.out.mono ?_
        rintro e w' ⟨rfl, hb'⟩
        go_wp2_with fail
        go_roundw
        case rel => exact ⟨k + 1, by omega, by go_num, E, chain BW.out hb'⟩
        case measure => simp [intOf]; omega
    · obtain rfl : k = ax.length := by omega
      have E := hide (MISS.out (fun j hj => hd.out j hj hj))
      clear HIT MISS hd FV HP h
      go_wp2_with fail
      go_ret
      exact ⟨by rw [E.out]; rfl, BW.out⟩
set_option maxHeartbeats 8000000 in
theorem containsFuncE_any (v : Value) (ax : List En) (p : En → Bool) (g : Nat) (lb : Array Value) (eg : ∀ args w, (callFunc g args).run Tryz.prog w = .ok (.enter g args) w) (w : World) (hv : FilesV w v ax) (hp : PredE g lb p ax w) (hl : ax.length ≤ 4398046511104) :
    Calls Tryz.prog 189 #[v, .func (.func g) #[] lb] w fun e w' => e = .returned (.bool (ax.any p)) ∧ Below w.heap.size w w' := by
  have HI := hide (indexFuncE_any v ax p g lb eg w hv hp hl)
  have E := hide (findE_nonneg (ax.findIdx? p))
  rw [idx_any] at E
  generalize ax.any p = R at *
  generalize findV (ax.findIdx? p) = z at *
  clear hv hp
  go_enter Tryz.func189, Tryz.ntmps189
  go_wp2_with fail
  refine HI.out.mono ?_
  rintro e w1 ⟨rfl, b1⟩
  go_wp2_with fail
  go_ret
  exact ⟨ret_bool E.out, b1⟩
set_option maxHeartbeats 8000000 in
theorem clear1_any (b : ByteArray) (B : Nat) (e0 : En) (W : World) (hc : W.cell? ⟨B, 0, none⟩ = some (.string b)) (hz : EnZ 1000000 e0) (hb : 0 < b.size) (hT : PtTabs W) :
    Calls Tryz.prog 187 #[.agg #[.string e0.name, .string e0.val, .bool e0.file, .string e0.fname, .string e0.typ], .pointer (some ⟨B, 0, none⟩)] W fun e w' => e = .returned (.bool (cutL (bL b) (partL e0)).isSome) ∧ Below W.heap.size W w' := by
  have HP := hide (fun X (h : Below W.heap.size W X) => part_any e0 X hz (hT.below h))
  have ps := part_size hz
  have HC := hide (fun X (h : Below W.heap.size W X) => contains_any (txt (partL e0)) b X (by show (partL e0).length ≤ _; omega) hb (hT.below h).mx)
  have EC : Hid (bL (txt (partL e0)) = partL e0) := rfl
  rw [EC.out] at HC
  generalize (cutL (bL b) (partL e0)).isSome = R at *
  generalize txt (partL e0) = pt at *
  have K1 := hide (Bk.new W [.string e0.name, .string e0.val, .bool e0.file, .string e0.fname, .string e0.typ] 76).drewC
  have B1 : Hid (Below W.heap.size W (W.alloc (.cells #[.string e0.name, .string e0.val, .bool e0.file, .string e0.fname, .string e0.typ] 76)).drew) := belDC ((Below.refl _ W).alloc (Nat.le_refl _) _)
  have x1 := hide (cell_below hc B1.out)
  clear hz ps hc hT EC
  generalize e0.name = t0 at *
  generalize e0.val = t1 at *
  generalize e0.file = fb at *
  generalize e0.fname = t2 at *
  generalize e0.typ = t3 at *
  go_enter Tryz.func187, Tryz.ntmps187
  go_wp2_with fail
  refine wp_region_held_drew (S := fun X : World => (X.cell? ⟨W.heap.size, 0, none⟩ = some (.string t0) ∧ X.cell? ⟨W.heap.size, 1, none⟩ = some (.string t1) ∧ X.cell? ⟨W.heap.size, 2, none⟩ = some (.bool fb) ∧ X.cell? ⟨W.heap.size, 3, none⟩ = some (.string t2) ∧ X.cell? ⟨W.heap.size, 4, none⟩ = some (.string t3)) ∧ X.cell? ⟨B, 0, none⟩ = some (.string b)) (by kernel_rfl) ?_ (fun hHeld => ?_)
  · exact ⟨⟨K1.out.cell 0 rfl, K1.out.cell 1 rfl, K1.out.cell 2 rfl, K1.out.cell 3 rfl, K1.out.cell 4 rfl⟩, x1.out⟩
  refine wpAnyH_take (i := 0) (oi := { dst := some 4, op := Op.load 76 (Operand.tmp 2), type := 76, pos := "parts.go:44", after := #[], guard := none }) (v := ?_) rfl (by kernel_rfl) (by kernel_rfl) (by kernel_rfl) (fun _ _ _ h => h) (Or.inl ⟨by rfl, ?_⟩) (by assumption) ?_
  rotate_left
  · (intro w hSw; (try dsimp only at hSw); first | (go_simp; done) | (go_simp; with_reducible rfl))
  simp only [Act.put, List.setIfInBounds_toArray, List.set_cons_zero, List.set_cons_succ]
  refine wpAnyH_take (i := 2) (oi := { dst := some 6, op := Op.load 9 (Operand.tmp 1), type := 9, pos := "parts.go:44", after := #[], guard := none }) (v := ?_) rfl (by kernel_rfl) (by kernel_rfl) (by kernel_rfl) (fun _ _ _ h => h) (Or.inl ⟨by rfl, ?_⟩) (by assumption) ?_
  rotate_left
  · (intro w hSw; (try dsimp only at hSw); first | (go_simp; done) | (go_simp; with_reducible rfl))
  simp only [Act.put, List.setIfInBounds_toArray, List.set_cons_zero, List.set_cons_succ]
  refine wpAnyH_ready (rs := [1]) (by kernel_rfl) (by simp) ?_
  refine AllReadyH.cons (i := 1) (o := { dst := some 5, op := Op.call { callee := Callee.value (Operand.func 188), args := #[Operand.tmp 4], argTypes := #[76] }, type := 9, pos := "parts.go:44", after := #[{ on := 0, ground := Ground.data }], guard := none }) rfl (fun K hK => ?_) AllReadyH.nil
  go_simp
  refine (HP.out _ B1.out).mono ?_
  rintro e w2 ⟨rfl, b2⟩
  replace x1 := hide (cell_below x1.out b2)
  replace K1 := hide (K1.out.below b2)
  have B2 := hide (chain B1.out b2)
  clear b2
  go_wp2_with fail
  refine hK.out _ _ ?_ (fun hHeld => ?_)
  · exact ⟨⟨K1.out.cell 0 rfl, K1.out.cell 1 rfl, K1.out.cell 2 rfl, K1.out.cell 3 rfl, K1.out.cell 4 rfl⟩, x1.out⟩
  clear hK K
  refine wpAnyH_ready (rs := [3]) (by kernel_rfl) (by simp) ?_
  refine AllReadyH.cons (i := 3) (o := { dst := some 7, op := Op.call { callee := Callee.value (Operand.func 51), args := #[Operand.tmp 5, Operand.tmp 6], argTypes := #[9, 9] }, type := 4, pos := "parts.go:44", after := #[{ on := 1, ground := Ground.data }, { on := 2, ground := Ground.data }, { on := 1, ground := Ground.chain }], guard := none }) rfl (fun K hK => ?_) AllReadyH.nil
  go_simp
  refine (HC.out _ B2.out).mono ?_
  rintro e w3 ⟨rfl, hu⟩
  obtain rfl : w2 = w3 := hu.symm
  go_wp2_with fail
  refine hK.out _ _ ?_ (fun hHeld => ?_)
  · exact ⟨⟨K1.out.cell 0 rfl, K1.out.cell 1 rfl, K1.out.cell 2 rfl, K1.out.cell 3 rfl, K1.out.cell 4 rfl⟩, x1.out⟩
  clear hK K
  refine wpAnyH_take (i := 4) (oi := { dst := some 3, op := Op.assign (Operand.tmp 7), type := 4, pos := "parts.go:44", after := #[{ on := 3, ground := Ground.data }, { on := 3, ground := Ground.chain }, { on := 0, ground := Ground.phase }, { on := 1, ground := Ground.phase }, { on := 2, ground := Ground.phase }, { on := 3, ground := Ground.phase }], guard := none }) (v := ?_) rfl (by kernel_rfl) (by kernel_rfl) (by kernel_rfl) (fun _ _ _ h => h) (Or.inl ⟨by rfl, ?_⟩) (by assumption) ?_
  rotate_left
  · (intro w hSw; (try dsimp only at hSw); first | (go_simp; done) | (go_simp; with_reducible rfl))
  simp only [Act.put, List.setIfInBounds_toArray, List.set_cons_zero, List.set_cons_succ]
  refine wpAnyH_done (by kernel_rfl) ?_ _
  go_wp2_with fail
  go_ret
  exact ⟨rfl, B2.out⟩
theorem entersClear1 : ∀ args w, (callFunc 187 args).run Tryz.prog w = .ok (.enter 187 args) w := Go.Proofs.enters_of Tryz.func187 (by kernel_rfl) rfl
theorem clr_any (l : List En) (b : List UInt8) : clrL l b = (fitL b && !(l.any fun e => (cutL b (partL e)).isSome)) := by
  unfold clrL
  congr 1
  induction l with
  | nil => rfl
  | cons e l ih =>
    rw [List.all_cons, List.any_cons, ih]
    cases cutL b (partL e) <;> simp
set_option maxHeartbeats 8000000 in
theorem ptClear_any (n : Nat) (v : Value) (l : List En) (b : ByteArray) (w : World) (hv : FilesV w v l) (hn : n ≤ 1000000) (hl : EnsOK n l) (hb : b.size ≤ 1000) (hT : PtTabs w) :
    Calls Tryz.prog 143 #[v, .string b] w fun e w' => e = .returned (.bool (clrL l (bL b))) ∧ Below w.heap.size w w' := by
  have B0 : Hid (Below w.heap.size w (w.alloc (.cells #[.string b] 9))) := (Below.refl _ w).alloc (Nat.le_refl _) _
  have x0 : (w.alloc (.cells #[.string b] 9)).cell? ⟨w.heap.size, 0, none⟩ = some (.string b) := (Bk.new w [.string b] 9).cell 0 rfl
  have HF := hide (fun W => ptFitW_any b W (by omega))
  have HZ := hide (ens_z hl hn)
  have E := hide (clr_any l (bL b))
  have l200 := hl.len
  obtain ⟨p, c, rfl⟩ := files_formP hv
  cases ft : fitL (bL b) with
  | false =>
    rw [ft, Bool.false_and] at E
    rw [ft] at HF
    clear ft hv hl HZ hT
    go_enter Tryz.func143, Tryz.ntmps143
    go_wp2_with fail
    refine (HF.out _).mono ?_
    rintro e w1 ⟨rfl, hu⟩
    obtain rfl := hu.symm
    go_wp2_with fail
    go_ret
    exact ⟨ret_bool E.out.symm, B0.out⟩
  | true =>
    have hb0 : 0 < b.size := by have := (fit_pos ft).1; rw [len_bL] at this; exact this
    rw [ft, Bool.true_and] at E
    rw [ft] at HF
    have HC := hide (containsFuncE_any _ l (fun e => (cutL (bL b) (partL e)).isSome) 187 #[.pointer (some ⟨w.heap.size, 0, none⟩)] entersClear1 _ (hv.below B0.out) (fun W x hx hbW => clear1_any b w.heap.size x W (cell_below x0 hbW) (HZ.out x hx) hb0 ((hT.below B0.out).below hbW)) (by omega))
    clear ft hv hl HZ hT hb0
    generalize l.any (fun e => (cutL (bL b) (partL e)).isSome) = A at *
    generalize clrL l (bL b) = R at *
    go_enter Tryz.func143, Tryz.ntmps143
    go_wp2_with fail
    refine (HF.out _).mono ?_
    rintro e w1 ⟨rfl, hu⟩
    obtain rfl := hu.symm
    go_wp2_with fail
    refine HC.out.mono ?_
    rintro e w2 ⟨rfl, b2⟩
    have B2 := hide (chain B0.out b2)
    clear b2 HC B0
    go_wp2_with fail
    go_ret
    exact ⟨ret_bool E.out.symm, B2.out⟩
set_option maxHeartbeats 8000000 in
theorem ptChoose_any (n : Nat) (v dv : Value) (l : List En) (ds : List ByteArray) (w : World) (hv : FilesV w v l) (hd : DrawsV w dv ds) (hn : n ≤ 1000000) (hl : EnsOK n l) (hz : ∀ d ∈ ds.take 8, d.size ≤ 1000) (hT : PtTabs w) :
    Calls Tryz.prog 79 #[v, dv] w fun e w' => e = .returned (.tuple #[.string (chsT (chsP l ds)), .int .i64 (chsE (chsP l ds))]) ∧ Below w.heap.size w w' := by
  have DV := hide hd
  have HC := hide (fun d (hz : d.size ≤ 1000) W (hb : Below w.heap.size w W) => ptClear_any n v l d W (hv.below hb) hn hl hz (hT.below hb))
  have HCl := hide (fun d (hz : d.size ≤ 1000) W => clone_any d W (by omega))
  obtain ⟨RES, hRES⟩ : ∃ R, Hid (chsP l ds = R) := ⟨_, show _ = _ from rfl⟩
  rw [hRES.out]
  obtain ⟨m, hm⟩ : ∃ m, m = (ds.take 8).length := ⟨_, rfl⟩
  have TL : m = min 8 ds.length := by rw [hm, List.length_take]
  obtain ⟨p, c, rfl⟩ := files_formP hv
  have hcap : ∃ p c, dv = .slice p ds.length c ∧ ds.length ≤ c := by obtain ⟨p, c, e, _, hc⟩ := hd; exact ⟨p, c, e, hc⟩
  obtain ⟨pd, cd, rfl, hcap⟩ := hcap
  have HZ := hide hz
  have ST : Hid (((ds.take 8).drop 0).find? (fun d => clrL l (bL d)) = RES) := hRES.out
  have i1 : (m : Int) ≤ (cd : Int) := by omega
  clear hv hd hl hz hRES hT
  have MN : Hid (m = (ds.take 8).length) := hm
  have hml : m ≤ ds.length := by omega
  have hm8 : m ≤ 8 := by omega
  have mi : min (ds.length : Int) 8 = (m : Int) := by omega
  have mx : max (m : Int) 0 = (m : Int) := by omega
  have m0 : (0 : Int) ≤ (m : Int) := by omega
  clear TL hm hcap
  go_enter Tryz.func79, Tryz.ntmps79
  go_wp2_with fail
  go_loopw [14] (fun iv wr => ∃ k : Nat, k ≤ m ∧ iv = .int .i64 k ∧ Hid (((ds.take 8).drop k).find? (fun d => clrL l (bL d)) = RES) ∧ Hid (Below w.heap.size w wr)) (fun iv _ => m - (intOf iv).toNat)
  case atStart => exact ⟨0, Nat.zero_le _, rfl, ST, Below.refl _ _⟩
  case round =>
    rename World => wr
    obtain ⟨k, hk, rfl, HR, BW⟩ := hrel
    clear ST mi mx
    by_cases g : k < m
    · have k1 : (k : Int) < (m : Int) := by omega
      have k0 : (0 : Int) ≤ (k : Int) := by omega
      have gl : k < ds.length := by omega
      have gt : k < (ds.take 8).length := by rw [← MN.out]; exact g
      have et : (ds.take 8)[k] = ds[k] := List.getElem_take
      have zd := HZ.out _ (List.getElem_mem gt)
      rw [et] at zd
      obtain ⟨bb, oo, rfl, x0⟩ := draw_of (DV.out.below BW.out) gl
      have HC1 := hide (HC.out ds[k] zd wr BW.out)
      have HL1 := hide (fun W => HCl.out ds[k] zd W)
      cases cl : clrL l (bL ds[k]) with
      | true =>
        have RR : RES = some ds[k] := by
          rw [← HR.out, find_here (p := fun d => clrL l (bL d)) gt (by rw [et]; exact cl), et]
        rw [cl] at HC1
        have E1 : Hid (ds[k] = chsT RES) := by show _ = _; rw [RR]; rfl
        have E2 : Hid ((0 : Int) = chsE RES) := by show _ = _; rw [RR]; rfl
        clear HR HC HCl HZ DV MN cl RR zd et
        generalize ds[k] = dk at *
        go_wp2_with fail
        refine HC1.out.mono ?_
        rintro e w2 ⟨rfl, b2⟩
        have B2 := hide (chain BW.out b2)
        clear b2 HC1
        go_wp2_with fail
        refine (HL1.out _).mono ?_
        rintro e w3 ⟨rfl, b3⟩
        go_wp2_with fail
        go_ret2
        exact ⟨ret_chs E1.out E2.out, chain B2.out b3⟩
      | false =>
        have RR : Hid (((ds.take 8).drop (k + 1)).find? (fun d => clrL l (bL d)) = RES) := by
          show _ = _
          rw [← HR.out, find_skip (p := fun d => clrL l (bL d)) gt (by rw [et]; exact cl)]
        rw [cl] at HC1
        clear HR HC HCl HZ DV MN cl zd et HL1
        generalize ds[k] = dk at *
        go_wp2_with fail
        refine HC1.out.mono ?_
        rintro e w2 ⟨rfl, b2⟩
        have B2 := hide (chain BW.out b2)
        clear b2 HC1
        go_wp2_with fail
        go_roundw
        case rel => exact ⟨k + 1, by omega, by go_num, RR, B2⟩
        case measure => simp [intOf]; omega
    · obtain rfl : k = m := by omega
      have RR : RES = none := by
        rw [← HR.out, List.drop_of_length_le (by rw [← MN.out]; exact Nat.le_refl _)]; rfl
      have E1 : Hid ((⟨#[]⟩ : ByteArray) = chsT RES) := by show _ = _; rw [RR]; rfl
      have E2 : Hid ((10 : Int) = chsE RES) := by show _ = _; rw [RR]; rfl
      clear HR HC HCl HZ DV MN RR
      go_wp2_with fail
      go_ret2
      exact ⟨ret_chs E1.out E2.out, BW.out⟩
end Go.Proofs.YtnojgejcmaajmaaGreatDoor

namespace Go.Proofs.YtnojgejcmaajmaaGreatDoor
open Go.RowKit
set_option maxRecDepth 100000
set_option maxHeartbeats 8000000 in
theorem ptEncode_any (n : Nat) (v : Value) (l : List En) (b : ByteArray) (w : World) (hv : FilesV w v l) (hn : n ≤ 1000000) (hl : EnsOK n l) (hb : b.size ≤ 1000) (hT : PtTabs w) :
    Calls Tryz.prog 144 #[v, .string b] w fun e w' => e = .returned (.tuple #[.string (encT20 l b), .int .i64 (encE20 l b)]) ∧ Below w.heap.size w w' := by
  have FV := hide hv
  have HC := hide (ptClear_any n v l b w hv hn hl hb hT)
  have HZ := hide (ens_z hl hn)
  have HT := hide hT
  have l200 := hl.len
  obtain ⟨p, c, rfl⟩ := files_formP hv
  have PT := hide (fun k => enT_len (b := bL b) HZ.out l200 (by rw [len_bL]; exact hb) k)
  have D1 : ((⟨#[45, 45]⟩ : ByteArray) ++ b).size ≤ 1002 := app_le (show (⟨#[45, 45]⟩ : ByteArray).size ≤ 2 by decide) hb
  clear hv hl hT
  cases q : clrL l (bL b) with
  | false =>
    rw [q] at HC
    have E1 : Hid (encT20 l b = ⟨#[]⟩) := by show _ = _; unfold encT20; rw [q]; rfl
    have E2 : Hid (encE20 l b = 10) := by show _ = _; unfold encE20; rw [q]; rfl
    clear q FV HZ PT HT
    go_enter Tryz.func144, Tryz.ntmps144
    go_wp2_with fail
    refine HC.out.mono ?_
    rintro e w1 ⟨rfl, b1⟩
    go_wp2_with fail
    go_ret2
    exact ⟨ret_chs E1.out.symm E2.out.symm, b1⟩
  | true =>
    rw [q] at HC
    have E1 : Hid (txt (encP l (bL b)) = encT20 l b) := by show _ = _; unfold encT20; rw [q]; rfl
    have E2 : Hid (encE20 l b = 0) := by show _ = _; unfold encE20; rw [q]; rfl
    clear q
    have D2 : ((⟨#[45, 45]⟩ : ByteArray) ++ b ++ (⟨#[13, 10]⟩ : ByteArray)).size ≤ 1004 := app_le D1 (show (⟨#[13, 10]⟩ : ByteArray).size ≤ 2 by decide)
    have D3 : ((⟨#[45, 45]⟩ : ByteArray) ++ b ++ (⟨#[45, 45]⟩ : ByteArray)).size ≤ 1004 := app_le D1 (show (⟨#[45, 45]⟩ : ByteArray).size ≤ 2 by decide)
    have D4 : ((⟨#[45, 45]⟩ : ByteArray) ++ b ++ (⟨#[45, 45]⟩ : ByteArray) ++ (⟨#[13, 10]⟩ : ByteArray)).size ≤ 1006 := app_le D3 (show (⟨#[13, 10]⟩ : ByteArray).size ≤ 2 by decide)
    have L2 : Hid (bL ((⟨#[45, 45]⟩ : ByteArray) ++ b ++ (⟨#[13, 10]⟩ : ByteArray)) = ([45, 45] ++ bL b) ++ [13, 10]) := by show _ = _; rw [bL_app, bL_app]
    have L4 : Hid (bL ((⟨#[45, 45]⟩ : ByteArray) ++ b ++ (⟨#[45, 45]⟩ : ByteArray) ++ (⟨#[13, 10]⟩ : ByteArray)) = ([45, 45] ++ bL b) ++ [45, 45, 13, 10]) := by show _ = _; rw [bL_app, bL_app, bL_app, List.append_assoc]; rfl
    have sx1 : (⟨#[13, 10]⟩ : ByteArray).size = 2 := rfl
    go_enter Tryz.func144, Tryz.ntmps144
    go_wp2_with fail
    refine HC.out.mono ?_
    rintro e w1 ⟨rfl, b1⟩
    have B1 := hide b1
    have HB0 := hide (HoldsK.new w1)
    have AL0 : Hid (Below w1.heap.size w1 (w1.alloc (.cells #[.pointer none, .slice none 0 0] 94))) := (Below.refl _ w1).alloc (Nat.le_refl _) _
    have SZ0 : Hid (w1.heap.size < (w1.alloc (.cells #[.pointer none, .slice none 0 0] 94)).heap.size) := by show _ < _; simp
    have EN0 : Hid (enT l (bL b) 0 = []) := rfl
    clear b1 HC
    go_wp2_with fail
    go_loopw [15] (fun iv wr => ∃ k : Nat, k ≤ l.length ∧ iv = .int .i64 k ∧ HoldsK w1.heap.size w1.heap.size (enT l (bL b) k) wr ∧ Hid (Below w1.heap.size w1 wr) ∧ Hid (w1.heap.size < wr.heap.size)) (fun iv _ => l.length - (intOf iv).toNat)
    case atStart => exact ⟨0, Nat.zero_le _, rfl, by rw [EN0.out]; exact HB0.out, AL0, SZ0⟩
    case round =>
      rename World => wr
      obtain ⟨k, hk, rfl, HB, BW, SW⟩ := hrel
      clear HB0 AL0 SZ0 EN0
      have L0 := PT.out k
      by_cases g : k < l.length
      · have k1 : (k : Int) < (l.length : Int) := by omega
        have k0 : (0 : Int) ≤ (k : Int) := by omega
        obtain ⟨bb, oo, rfl, EA⟩ := en_of (FV.out.below (chain B1.out BW.out)) g
        have zq := HZ.out _ (List.getElem_mem g)
        have ps := part_size zq
        have HP := hide (fun W (hb : Below w.heap.size w W) => part_any l[k] W zq (HT.out.below hb))
        have EX : Hid (enT l (bL b) (k + 1) = ((((enT l (bL b) k ++ [45, 45]) ++ bL b) ++ [13, 10]) ++ bL (txt (partL l[k]))) ++ [13, 10]) := enT_next l (bL b) g
        have zp : (txt (partL l[k])).size ≤ 16000200 := by show (partL l[k]).length ≤ _; omega
        have a0 := EA.c0
        have a1 := EA.c1
        have a2 := EA.c2
        have a3 := EA.c3
        have a4 := EA.c4
        clear EA zq ps HZ FV PT E1 E2 L4 D3 D4 HT
        generalize txt (partL l[k]) = pt at *
        obtain ⟨C1, hC1⟩ : ∃ x, enT l (bL b) (k + 1) = x := ⟨_, rfl⟩
        rw [hC1] at EX
        have HC1 := hide hC1
        clear hC1
        generalize hC : enT l (bL b) k = C at EX L0 HB
        clear hC
        generalize l[k] = ek at *
        have KE := hide (Bk.new wr [.string ek.name, .string ek.val, .bool ek.file, .string ek.fname, .string ek.typ] 76)
        have AL : Below wr.heap.size wr (wr.alloc (.cells #[.string ek.name, .string ek.val, .bool ek.file, .string ek.fname, .string ek.typ] 76)) := (Below.refl _ wr).alloc (Nat.le_refl _) _
        have HBa := hide (HB.below AL)
        have Bwa : Hid (Below w1.heap.size w1 (wr.alloc (.cells #[.string ek.name, .string ek.val, .bool ek.file, .string ek.fname, .string ek.typ] 76))) := chain BW.out AL
        have GE : Hid (wr.heap.size ≠ w1.heap.size) := by show _ ≠ _; have := SW.out; omega
        have SWa : Hid (w1.heap.size < (wr.alloc (.cells #[.string ek.name, .string ek.val, .bool ek.file, .string ek.fname, .string ek.typ] 76)).heap.size) := by show _ < _; have := SW.out; have := AL.size; omega
        clear AL HB SW
        have tyne : 76 ≠ 5 := by decide
        generalize hB2 : ((⟨#[45, 45]⟩ : ByteArray) ++ b ++ (⟨#[13, 10]⟩ : ByteArray)) = hd at D2 L2
        have HD := hide hB2
        clear hB2
        go_wp2_with fail
        rw [HD.out]
        generalize wr.alloc (.cells #[.string ek.name, .string ek.val, .bool ek.file, .string ek.fname, .string ek.typ] 76) = wa at *
        refine (writeStringK w1.heap.size w1.heap.size C hd wa HBa.out (by omega) Bwa.out.size).mono ?_
        rintro e w2 ⟨rfl, h2, b2, k2⟩
        have K2 := hide (KE.out.oth k2 GE.out tyne)
        have H2 := hide h2
        have B2 : Hid (Below w1.heap.size w1 w2) := Bwa.out.trans b2
        have x0 := K2.out.cell 0 rfl
        have x1 := K2.out.cell 1 rfl
        have x2 := K2.out.cell 2 rfl
        have x3 := K2.out.cell 3 rfl
        have x4 := K2.out.cell 4 rfl
        clear h2 b2 k2 KE HBa Bwa
        go_wp2_with fail
        refine (HP.out _ (chain B1.out B2.out)).mono ?_
        rintro e w3 ⟨rfl, b3⟩
        have H3 := hide (H2.out.below b3)
        have B3 := hide (chain B2.out b3)
        have C3 : (C ++ hd.data.toList).length ≤ 4000001004 := by rw [List.length_append]; show C.length + (bL hd).length ≤ _; rw [len_bL]; omega
        clear b3 H2 HP x0 x1 x2 x3 x4
        go_wp2_with fail
        refine (writeStringK w1.heap.size w1.heap.size (C ++ hd.data.toList) pt w3 H3.out (by omega) B3.out.size).mono ?_
        rintro e w4 ⟨rfl, h4, b4, _⟩
        have H4 := hide h4
        have B4 : Hid (Below w1.heap.size w1 w4) := B3.out.trans b4
        have C4 : (C ++ hd.data.toList ++ pt.data.toList).length ≤ 4016001204 := by rw [List.length_append]; show _ + (bL pt).length ≤ _; rw [len_bL]; omega
        clear h4 b4 H3
        go_wp2_with fail
        refine (writeStringK w1.heap.size w1.heap.size (C ++ hd.data.toList ++ pt.data.toList) ⟨#[13, 10]⟩ w4 H4.out (by omega) B4.out.size).mono ?_
        rintro e w5 ⟨rfl, h5, b5, _⟩
        have H5 : Hid (HoldsK w1.heap.size w1.heap.size C1 w5) := by
          show HoldsK _ _ _ _
          rw [EX.out]
          have : ((((C ++ [45, 45]) ++ bL b) ++ [13, 10]) ++ bL pt) ++ [13, 10] = ((C ++ hd.data.toList) ++ pt.data.toList) ++ (⟨#[13, 10]⟩ : ByteArray).data.toList := by
            show _ = ((C ++ bL hd) ++ bL pt) ++ [13, 10]
            rw [L2.out]; simp
          rw [this]; exact h5
        have B5 : Hid (Below w1.heap.size w1 w5) := B4.out.trans b5
        have S5 : Hid (w1.heap.size < w5.heap.size) := holdsK_lt H5.out
        clear h5 b5 H4
        go_wp2_with fail
        go_roundw
        case rel => exact ⟨k + 1, by omega, by go_num, by rw [HC1.out]; exact H5.out, B5, S5⟩
        case measure => simp [intOf]; omega
      · obtain rfl : k = l.length := by omega
        have EA : Hid (((enT l (bL b) l.length ++ [45, 45]) ++ bL b) ++ [45, 45, 13, 10] = encP l (bL b)) := enT_all l (bL b)
        clear FV HZ PT HT D2 L2
        generalize enT l (bL b) l.length = C at *
        generalize encP l (bL b) = EP at *
        generalize hB2 : ((⟨#[45, 45]⟩ : ByteArray) ++ b ++ (⟨#[45, 45]⟩ : ByteArray) ++ (⟨#[13, 10]⟩ : ByteArray)) = hd at D4 L4
        have HD := hide hB2
        clear hB2
        go_wp2_with fail
        rw [HD.out]
        refine (writeStringK w1.heap.size w1.heap.size C hd wr HB (by omega) BW.out.size).mono ?_
        rintro e w2 ⟨rfl, h2, b2, _⟩
        have H2 : Hid (HoldsK w1.heap.size w1.heap.size EP w2) := by
          show HoldsK _ _ _ _
          rw [← EA.out]
          have : (((C ++ [45, 45]) ++ bL b) ++ [45, 45, 13, 10]) = C ++ hd.data.toList := by
            show _ = C ++ bL hd
            rw [L4.out]; simp
          rw [this]; exact h2
        have B2 : Hid (Below w1.heap.size w1 w2) := BW.out.trans b2
        clear h2 b2 HB EA L4
        go_wp2_with fail
        refine (builderTextK _ _ _ _ H2.out B2.out.size).mono ?_
        rintro e w3 ⟨rfl, h3, b3, _⟩
        have B3 : Hid (Below w1.heap.size w1 w3) := B2.out.trans b3
        clear h3 b3
        go_wp2_with fail
        go_ret2
        exact ⟨ret_chs E1.out E2.out.symm, chain B1.out B3.out⟩
end Go.Proofs.YtnojgejcmaajmaaGreatDoor

namespace Go.Proofs.YtnojgejcmaajmaaGreatDoor
open Go.RowKit
set_option maxRecDepth 100000
theorem ret_bodP {a b c d : ByteArray} {e f : Int} (h1 : a = b) (h2 : c = d) (h3 : e = f) : Ending.returned (.tuple #[.string a, .string c, .int .i64 e]) = .returned (.tuple #[.string b, .string d, .int .i64 f]) := by rw [h1, h2, h3]
set_option maxHeartbeats 8000000 in
theorem plBody_any (n : Nat) (kind : Int) (v : Value) (l : List En) (b : ByteArray) (w : World) (hv : FilesV w v l) (hn : n ≤ 1000000) (hl : EnsOK n l) (hb : b.size ≤ 1000) (hT : PlTabs w) :
    Calls Tryz.prog 80 #[.int .i64 kind, v, .string b] w fun e w' => e = .returned (.tuple #[.string (bodT kind l b), .string (bodY kind l b), .int .i64 (bodE kind l b)]) ∧ Below w.heap.size w w' := by
  have HU := hide (urEncode_any n v l w hv hn hl hT.1)
  have HP := hide (ptEncode_any n v l b w hv hn hl hb hT.2)
  have HE := hide (plEncode_any n v l w hv hn hl hT)
  have C1 := hide (fun W => clone_any uY W (by decide))
  have C3 := hide (fun W => clone_any tY W (by decide))
  obtain ⟨p, c, rfl⟩ := files_formP hv
  clear hv hl hT
  by_cases h1 : kind = 1
  · subst h1
    have E1 : Hid (bodT 1 l b = urlS l) := by show _ = _; unfold bodT; rw [if_pos rfl]
    have E2 : Hid (bodY 1 l b = uY) := by show _ = _; unfold bodY; rw [if_pos rfl]
    have E3 : Hid (bodE 1 l b = 0) := by show _ = _; unfold bodE; rw [if_pos rfl]
    have q1 : ((1 : Int) == 1) = true := rfl
    clear HP HE C3
    generalize bodT 1 l b = x1 at *
    generalize bodY 1 l b = x2 at *
    generalize bodE 1 l b = x3 at *
    generalize urlS l = u at *
    go_enter Tryz.func80, Tryz.ntmps80
    go_wp2_with fail
    refine HU.out.mono ?_
    rintro e w1 ⟨rfl, b1⟩
    have B1 := hide b1
    clear b1 HU
    go_wp2_with fail
    refine (C1.out w1).mono ?_
    rintro e w2 ⟨rfl, b2⟩
    have B2 := hide (chain B1.out b2)
    clear b2 C1 B1
    go_wp2_with fail
    go_ret3
    exact ⟨ret_bodP E1.out.symm E2.out.symm E3.out.symm, B2.out⟩
  · by_cases h2 : kind = 2
    · subst h2
      have E3 : Hid (bodE 2 l b = encE20 l b) := by show _ = _; unfold bodE; rw [if_neg (by decide), if_pos rfl]
      have E1 : Hid (bodT 2 l b = encT20 l b) := by show _ = _; unfold bodT; rw [if_neg (by decide), if_pos rfl]
      have q1 : ((2 : Int) == 1) = false := rfl
      have q2 : ((2 : Int) == 2) = true := rfl
      clear HU HE C1 C3
      cases cl : clrL l (bL b) with
      | false =>
        have E2 : Hid (bodY 2 l b = ⟨#[]⟩) := by show _ = _; unfold bodY; rw [if_neg (by decide), if_pos rfl, cl]; rfl
        have E4 : encT20 l b = ⟨#[]⟩ := by unfold encT20; rw [cl]; rfl
        have E5 : encE20 l b = 10 := by unfold encE20; rw [cl]; rfl
        rw [E4] at HP E1
        rw [E5] at HP E3
        clear E4 E5 cl
        generalize bodT 2 l b = x1 at *
        generalize bodY 2 l b = x2 at *
        generalize bodE 2 l b = x3 at *
        go_enter Tryz.func80, Tryz.ntmps80
        go_wp2_with fail
        refine HP.out.mono ?_
        rintro e w1 ⟨rfl, b1⟩
        have B1 := hide b1
        clear b1 HP
        go_wp2_with fail
        go_ret3
        exact ⟨ret_bodP E1.out.symm E2.out.symm E3.out.symm, B1.out⟩
      | true =>
        have E2 : Hid (bodY 2 l b = mY ++ b) := by show _ = _; unfold bodY; rw [if_neg (by decide), if_pos rfl, cl]; rfl
        have E5 : encE20 l b = 0 := by unfold encE20; rw [cl]; rfl
        rw [E5] at HP E3
        clear E5 cl
        generalize bodT 2 l b = x1 at *
        generalize bodY 2 l b = x2 at *
        generalize bodE 2 l b = x3 at *
        generalize encT20 l b = u at *
        have D1 : ((⟨#[109, 117, 108, 116, 105, 112, 97, 114, 116, 47, 102, 111, 114, 109, 45, 100, 97, 116, 97, 59, 32, 98, 111, 117, 110, 100, 97, 114, 121, 61]⟩ : ByteArray) ++ b).size ≤ 1030 := app_le (show (⟨#[109, 117, 108, 116, 105, 112, 97, 114, 116, 47, 102, 111, 114, 109, 45, 100, 97, 116, 97, 59, 32, 98, 111, 117, 110, 100, 97, 114, 121, 61]⟩ : ByteArray).size ≤ 30 by decide) hb
        go_enter Tryz.func80, Tryz.ntmps80
        go_wp2_with fail
        refine HP.out.mono ?_
        rintro e w1 ⟨rfl, b1⟩
        have B1 := hide b1
        clear b1 HP
        go_wp2_with fail
        go_ret3
        exact ⟨ret_bodP E1.out.symm E2.out.symm E3.out.symm, B1.out⟩
    · have q1 : (kind == 1) = false := beq_eq_false_iff_ne.2 h1
      have q2 : (kind == 2) = false := beq_eq_false_iff_ne.2 h2
      by_cases h3 : kind = 3
      · subst h3
        have E1 : Hid (bodT 3 l b = txt (encN l)) := by show _ = _; unfold bodT; rw [if_neg (by decide), if_neg (by decide), if_pos rfl]
        have E2 : Hid (bodY 3 l b = tY) := by show _ = _; unfold bodY; rw [if_neg (by decide), if_neg (by decide), if_pos rfl]
        have E3 : Hid (bodE 3 l b = 0) := by show _ = _; unfold bodE; rw [if_neg (by decide), if_neg (by decide), if_pos rfl]
        clear HU HP C1
        generalize bodT 3 l b = x1 at *
        generalize bodY 3 l b = x2 at *
        generalize bodE 3 l b = x3 at *
        generalize txt (encN l) = u at *
        go_enter Tryz.func80, Tryz.ntmps80
        go_wp2_with fail
        refine HE.out.mono ?_
        rintro e w1 ⟨rfl, b1⟩
        have B1 := hide b1
        clear b1 HE
        go_wp2_with fail
        refine (C3.out w1).mono ?_
        rintro e w2 ⟨rfl, b2⟩
        have B2 := hide (chain B1.out b2)
        clear b2 C3 B1
        go_wp2_with fail
        go_ret3
        exact ⟨ret_bodP E1.out.symm E2.out.symm E3.out.symm, B2.out⟩
      · have q3 : (kind == 3) = false := beq_eq_false_iff_ne.2 h3
        have E1 : Hid (bodT kind l b = ⟨#[]⟩) := by show _ = _; unfold bodT; rw [if_neg h1, if_neg h2, if_neg h3]
        have E2 : Hid (bodY kind l b = ⟨#[]⟩) := by show _ = _; unfold bodY; rw [if_neg h1, if_neg h2, if_neg h3]
        have E3 : Hid (bodE kind l b = 3) := by show _ = _; unfold bodE; rw [if_neg h1, if_neg h2, if_neg h3]
        clear HU HP HE C1 C3 h1 h2 h3
        generalize bodT kind l b = x1 at *
        generalize bodY kind l b = x2 at *
        generalize bodE kind l b = x3 at *
        go_enter Tryz.func80, Tryz.ntmps80
        go_wp2_with fail
        go_ret3
        exact ⟨ret_bodP E1.out.symm E2.out.symm E3.out.symm, Below.refl _ _⟩
end Go.Proofs.YtnojgejcmaajmaaGreatDoor

namespace Go.Proofs.YtnojgejcmaajmaaGreatDoor
open Go.RowKit
set_option maxRecDepth 100000
def carO (k : Int) (es : List En) : Option ByteArray → (ByteArray × ByteArray) × Int
  | none => ((⟨#[]⟩, ⟨#[]⟩), 10)
  | some b => ((bodT k es b, bodY k es b), bodE k es b)
def carP (k : Int) (es : List En) (ds : List ByteArray) : (ByteArray × ByteArray) × Int :=
  if k = 2 then carO k es (chsP es ds) else ((bodT k es ⟨#[]⟩, bodY k es ⟨#[]⟩), bodE k es ⟨#[]⟩)
theorem car_two {es : List En} {ds : List ByteArray} {k : Int} {o : Option ByteArray} (h : k = 2) (e : chsP es ds = o) : carP k es ds = carO k es o := by unfold carP; rw [if_pos h, e]
theorem car_else {es : List En} {ds : List ByteArray} {k : Int} (h : ¬ k = 2) : carP k es ds = ((bodT k es ⟨#[]⟩, bodY k es ⟨#[]⟩), bodE k es ⟨#[]⟩) := by unfold carP; rw [if_neg h]
theorem ret_car {a b c d : ByteArray} {e f : Int} (h1 : a = b) (h2 : c = d) (h3 : e = f) : Ending.returned (.tuple #[.string a, .string c, .int .i64 e]) = .returned (.tuple #[.string b, .string d, .int .i64 f]) := by rw [h1, h2, h3]
theorem draws_formB {w : World} {v : Value} {ds : List ByteArray} (h : DrawsV w v ds) : ∃ p c, v = .slice p ds.length c := by
  obtain ⟨p, c, e, _⟩ := h
  exact ⟨p, c, e⟩
set_option maxHeartbeats 8000000 in
theorem sbCarried_any (n : Nat) (k : Int) (v dv : Value) (es : List En) (ds : List ByteArray) (w : World) (hv : FilesV w v es) (hd : DrawsV w dv ds) (hn : n ≤ 1000000) (he : EnsOK n es) (h5 : ∀ d ∈ ds, d.size ≤ 500) (hT : PlTabs w) :
    Calls Tryz.prog 27 #[.int .i64 k, v, dv] w fun e w' => e = .returned (.tuple #[.string (carP k es ds).1.1, .string (carP k es ds).1.2, .int .i64 (carP k es ds).2]) ∧ Below w.heap.size w w' := by
  have HC := hide (ptChoose_any n v dv es ds w hv hd hn he (fun d q => Nat.le_trans (h5 d (List.mem_of_mem_take q)) (by decide)) hT.2)
  have HB := hide (fun bd (hb' : bd.size ≤ 1000) W (hb : Below w.heap.size w W) => plBody_any n k v es bd W (hv.below hb) hn he hb' (hT.below hb))
  have CM : Hid (∀ bd, chsP es ds = some bd → bd.size ≤ 1000) := fun bd q => Nat.le_trans (h5 bd (chs_mem q).1) (by decide)
  obtain ⟨pe, ce, rfl⟩ := files_formP hv
  obtain ⟨pd, cd, rfl⟩ := draws_formB hd
  clear hv hd he h5 hT
  by_cases h : k = 2
  · have b1 : (k == 2) = true := beq_iff_eq.2 h
    cases ch : chsP es ds with
    | none =>
      have E := hide (car_two h ch)
      rw [ch, show chsT none = ⟨#[]⟩ from rfl, show chsE none = 10 from rfl] at HC
      have R1 : Hid ((carP k es ds).1.1 = ⟨#[]⟩) := by show _ = _; exact congrArg (fun x : (ByteArray × ByteArray) × Int => x.1.1) E.out
      have R2 : Hid ((carP k es ds).1.2 = ⟨#[]⟩) := by show _ = _; exact congrArg (fun x : (ByteArray × ByteArray) × Int => x.1.2) E.out
      have R3 : Hid ((carP k es ds).2 = 10) := by show _ = _; exact congrArg (fun x : (ByteArray × ByteArray) × Int => x.2) E.out
      clear E ch CM HB h
      generalize (carP k es ds).1.1 = Q1 at *
      generalize (carP k es ds).1.2 = Q2 at *
      generalize (carP k es ds).2 = Q3 at *
      go_enter Tryz.func27, Tryz.ntmps27
      go_wp2_with fail
      refine HC.out.mono ?_
      rintro e w1 ⟨rfl, b1⟩
      go_wp2_with fail
      go_ret3
      exact ⟨ret_car R1.out.symm R2.out.symm R3.out.symm, b1⟩
    | some bd =>
      have E := hide (car_two h ch)
      rw [ch, show chsT (some bd) = bd from rfl, show chsE (some bd) = 0 from rfl] at HC
      have R1 : Hid ((carP k es ds).1.1 = bodT k es bd) := by show _ = _; exact congrArg (fun x : (ByteArray × ByteArray) × Int => x.1.1) E.out
      have R2 : Hid ((carP k es ds).1.2 = bodY k es bd) := by show _ = _; exact congrArg (fun x : (ByteArray × ByteArray) × Int => x.1.2) E.out
      have R3 : Hid ((carP k es ds).2 = bodE k es bd) := by show _ = _; exact congrArg (fun x : (ByteArray × ByteArray) × Int => x.2) E.out
      replace HB := hide (HB.out bd (CM.out bd ch))
      clear E ch CM h
      generalize (carP k es ds).1.1 = Q1 at *
      generalize (carP k es ds).1.2 = Q2 at *
      generalize (carP k es ds).2 = Q3 at *
      generalize bodT k es bd = T1 at *
      generalize bodY k es bd = T2 at *
      generalize bodE k es bd = T3 at *
      go_enter Tryz.func27, Tryz.ntmps27
      go_wp2_with fail
      refine HC.out.mono ?_
      rintro e w1 ⟨rfl, b1⟩
      go_wp2_with fail
      refine (HB.out _ b1).mono ?_
      rintro e w2 ⟨rfl, b2⟩
      go_wp2_with fail
      go_ret3
      exact ⟨ret_car R1.out.symm R2.out.symm R3.out.symm, chain b1 b2⟩
  · have b1 : (k == 2) = false := beq_eq_false_iff_ne.2 h
    have E := hide (car_else (es := es) (ds := ds) h)
    have R1 : Hid ((carP k es ds).1.1 = bodT k es ⟨#[]⟩) := by show _ = _; exact congrArg (fun x : (ByteArray × ByteArray) × Int => x.1.1) E.out
    have R2 : Hid ((carP k es ds).1.2 = bodY k es ⟨#[]⟩) := by show _ = _; exact congrArg (fun x : (ByteArray × ByteArray) × Int => x.1.2) E.out
    have R3 : Hid ((carP k es ds).2 = bodE k es ⟨#[]⟩) := by show _ = _; exact congrArg (fun x : (ByteArray × ByteArray) × Int => x.2) E.out
    replace HB := hide (HB.out ⟨#[]⟩ (by decide))
    clear E CM h HC
    generalize (carP k es ds).1.1 = Q1 at *
    generalize (carP k es ds).1.2 = Q2 at *
    generalize (carP k es ds).2 = Q3 at *
    generalize bodT k es ⟨#[]⟩ = T1 at *
    generalize bodY k es ⟨#[]⟩ = T2 at *
    generalize bodE k es ⟨#[]⟩ = T3 at *
    go_enter Tryz.func27, Tryz.ntmps27
    go_wp2_with fail
    refine (HB.out _ (Below.refl _ _)).mono ?_
    rintro e w2 ⟨rfl, b2⟩
    go_wp2_with fail
    go_ret3
    exact ⟨ret_car R1.out.symm R2.out.symm R3.out.symm, b2⟩
/-- What a body of post asks for, told by 'carP'. -/
theorem car_mak {l : List Nd} {C : List Ct} {form sub : Int} {es : List En} {ds : List ByteArray} (hr : rightD l C = true) (hN : hasN l form = true) (hf : nmI l form = oForm) (q : metP l form sub = sPost) :
    ((carP (knP l form sub) es ds).2 = 10 ∧ makP l C form sub es ds = (pl0, 10)) ∨ ((carP (knP l form sub) es ds).2 = 0 ∧ makP l C form sub es ds = (⟨sPost, actP l form sub, tarP l form sub, (carP (knP l form sub) es ds).1.1, (carP (knP l form sub) es ds).1.2⟩, 0)) := by
  have EP : makP l C form sub es ds = if knP l form sub = 2 then (match chsP es ds with
            | none => ((pl0, 10) : Pl × Int)
            | some b => (posP l form sub es b, 0)) else (posP l form sub es ⟨#[]⟩, 0) := by
    unfold makP; rw [if_neg (by rw [hr, hN]; simp), if_neg (fun t => t hf), if_neg (by rw [q]; decide), if_neg (by rw [q]; decide)]; rfl
  by_cases h : knP l form sub = 2
  · rw [if_pos h] at EP
    cases ch : chsP es ds with
    | none =>
      rw [ch] at EP
      rw [car_two h ch]
      exact .inl ⟨rfl, EP⟩
    | some bd =>
      rw [ch] at EP
      rw [car_two h ch]
      refine .inr ⟨?_, EP⟩
      show bodE _ _ _ = 0
      unfold bodE encE20
      rw [h, if_neg (by decide), if_pos rfl, if_pos (chs_mem ch).2]
  · rw [if_neg h] at EP
    rw [car_else h]
    refine .inr ⟨?_, EP⟩
    show bodE _ _ _ = 0
    unfold bodE
    rcases kn_is (sub := sub) hN with k | k | k
    · rw [if_pos k]
    · exact absurd k h
    · rw [if_neg (by rw [k]; decide), if_neg h, if_pos k]

end Go.Proofs.YtnojgejcmaajmaaGreatDoor
