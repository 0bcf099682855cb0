/- The program's Fit, toldType, breaks, carried, quote, unquote of layer 20. The document's Clear, Choose, Encode of layer 20. The program's Clear and Choose of layer 20, and slices.ContainsFunc of entries. Stage 20's law PartsClear, walked. -/
import Derived.Test.YtgibkbeakfaehaaDoorJpt9
import Derived.Test.YtgibkbeakfaehaaDoorJpt37
import Derived.Test.YtgibkbeakfaehaaDoorJpt38
import Derived.Test.YtgibkbeakfaehaaDoorJpt43

namespace Go.Proofs.YtgibkbeakfaehaaDoor
open Go.RowKit
set_option maxRecDepth 100000
theorem ptFit_any (b : ByteArray) (w : World) (hb : b.size ≤ 1000) (_hT : PtTabs w) :
    Calls Tryd.prog 10 #[.string b] w fun e w' => e = .returned (.bool (fitL (bL b))) ∧ Below w.heap.size w w' := by
  refine (ptFitW_any b w (by omega)).mono ?_
  rintro e w' ⟨rfl, rfl⟩
  exact ⟨rfl, Below.refl _ _⟩
end Go.Proofs.YtgibkbeakfaehaaDoor

namespace Go.Proofs.YtgibkbeakfaehaaDoor
open Go.RowKit
set_option maxRecDepth 100000
theorem draw_of {w : World} {p : Option Addr} {c : Nat} {ds : List ByteArray} (hv : DrawsV w (.slice p ds.length c) ds) {k : Nat} (h : k < ds.length) : ∃ b o, p = some ⟨b, o, none⟩ ∧ w.cell? ⟨b, o + k, none⟩ = some (.string ds[k]) := by
  obtain ⟨p', c', e, hv, _⟩ := hv
  cases e
  rcases hv with hv | ⟨b, o, rfl, hv⟩
  · rw [hv] at h; simp at h
  · exact ⟨b, o, rfl, hv k h⟩
/-- The boundary that is chosen. -/
def chsP (l : List En) (ds : List ByteArray) : Option ByteArray := (ds.take 8).find? fun d => clrL l (bL d)
def chsT (o : Option ByteArray) : ByteArray := o.getD ⟨#[]⟩
def chsE (o : Option ByteArray) : Int := if o.isSome = true then 0 else 10
theorem find_skip {α : Type} {p : α → Bool} {xs : List α} {k : Nat} (h : k < xs.length) (hp : p xs[k] = false) : (xs.drop k).find? p = (xs.drop (k + 1)).find? p := by
  rw [List.drop_eq_getElem_cons h, List.find?_cons_of_neg (by rw [hp]; decide)]
theorem find_here {α : Type} {p : α → Bool} {xs : List α} {k : Nat} (h : k < xs.length) (hp : p xs[k] = true) : (xs.drop k).find? p = some xs[k] := by
  rw [List.drop_eq_getElem_cons h, List.find?_cons_of_pos hp]
set_option maxHeartbeats 8000000 in
theorem refChoose_any (n : Nat) (v dv : Value) (l : List En) (ds : List ByteArray) (w : World) (hv : FilesV w v l) (hd : DrawsV w dv ds) (hn : n ≤ 1000000) (hl : EnsOK n l) (hz : ∀ d ∈ ds.take 8, d.size ≤ 1099511627776) :
    Calls Tryd.prog 15 #[v, dv] w fun e w' => e = .returned (.tuple #[.string (chsT (chsP l ds)), .int .i64 (chsE (chsP l ds))]) ∧ Below w.heap.size w w' := by
  have DV := hide hd
  have HC := hide (fun d (hz : d.size ≤ 1099511627776) W (hb : Below w.heap.size w W) => refClear_any n v l d W (hv.below hb) hn hl hz)
  obtain ⟨RES, hRES⟩ : ∃ R, Hid (chsP l ds = R) := ⟨_, show _ = _ from rfl⟩
  rw [hRES.out]
  have T8 : Hid ((ds.take 8).length ≤ 8) := List.length_take_le _ _
  have TL : Hid ((ds.take 8).length = min 8 ds.length) := List.length_take
  obtain ⟨p, c, rfl⟩ := files_formP hv
  obtain ⟨pd, cd, rfl⟩ : ∃ p c, dv = .slice p ds.length c := by obtain ⟨p, c, e, _⟩ := hd; exact ⟨p, c, e⟩
  have HZ := hide hz
  have ST : Hid (((ds.take 8).drop 0).find? (fun d => clrL l (bL d)) = RES) := hRES.out
  clear hv hd hl hz hRES
  go_enter Tryd.func15, Tryd.ntmps15
  go_wp2_with fail
  go_loopw [6] (fun iv wr => ∃ k : Nat, k ≤ (ds.take 8).length ∧ iv = .int .i64 k ∧ Hid (((ds.take 8).drop k).find? (fun d => clrL l (bL d)) = RES) ∧ Hid (Below w.heap.size w wr)) (fun iv _ => 9 - (intOf iv).toNat)
  case atStart => exact ⟨0, Nat.zero_le _, rfl, ST, Below.refl _ _⟩
  case round =>
    rename World => wr
    obtain ⟨k, hk, rfl, HE, BW⟩ := hrel
    clear ST
    have t8 := T8.out
    by_cases g : k < (ds.take 8).length
    · have tl := TL.out
      have gd : k < ds.length := by omega
      have k8 : k < 8 := by omega
      have d0 : decide ((k : Int) < (ds.length : Int)) = true := decide_eq_true (by omega)
      have d1 : decide ((k : Int) < 8) = true := decide_eq_true (by omega)
      have k1 : (k : Int) < (ds.length : Int) := by omega
      have k0 : (0 : Int) ≤ (k : Int) := by omega
      obtain ⟨bb, oo, rfl, x0⟩ := draw_of (DV.out.below BW.out) gd
      have eg : (ds.take 8)[k] = ds[k] := List.getElem_take
      have zz := HZ.out _ (List.getElem_mem g)
      have HQ := hide (HC.out (ds.take 8)[k] zz wr BW.out)
      have FS := hide (find_skip (p := fun d => clrL l (bL d)) g)
      have FH := hide (find_here (p := fun d => clrL l (bL d)) g)
      rw [eg] at HQ FS FH
      have EY : Hid (clrL l (bL ds[k]) = true → RES = some ds[k]) := fun t => by rw [← HE.out]; exact FH.out t
      have EN : Hid (clrL l (bL ds[k]) = false → ((ds.take 8).drop (k + 1)).find? (fun d => clrL l (bL d)) = RES) := fun t => by rw [← HE.out]; exact (FS.out t).symm
      have XB := hide (fun W (hb : Below wr.heap.size wr W) => cell_below x0 hb)
      clear zz FS FH HE HC HZ eg tl
      generalize ds[k] = dk at *
      cases q : clrL l (bL dk) with
      | true =>
        rw [q] at HQ
        have R1 := hide (EY.out q)
        clear EY EN q
        go_wp2_with fail
        refine HQ.out.mono ?_
        rintro e w1 ⟨rfl, b1⟩
        have x1 := XB.out _ b1
        go_wp2_with fail
        go_ret2
        exact ⟨by rw [R1.out]; rfl, chain BW.out b1⟩
      | false =>
        rw [q] at HQ
        have R1 := hide (EN.out q)
        clear EY EN q
        go_wp2_with fail
        refine HQ.out.mono ?_
        rintro e w1 ⟨rfl, b1⟩
        go_wp2_with fail
        go_roundw
        case rel => exact ⟨k + 1, by omega, by go_num, R1, chain BW.out b1⟩
        case measure => simp [intOf]; omega
    · have R1 : Hid (RES = none) := by
        show _ = _
        rw [← HE.out, List.drop_of_length_le (by omega)]; rfl
      have tl := TL.out
      clear HE HC HZ DV TL T8
      by_cases gd : k < ds.length
      · have d0 : decide ((k : Int) < (ds.length : Int)) = true := decide_eq_true (by omega)
        have d1 : decide ((k : Int) < 8) = false := decide_eq_false (by omega)
        clear tl t8 g hk
        go_wp2_with fail
        go_ret2
        exact ⟨by rw [R1.out]; rfl, BW.out⟩
      · have d0 : decide ((k : Int) < (ds.length : Int)) = false := decide_eq_false (by omega)
        clear tl t8 g hk
        go_wp2_with fail
        go_ret2
        exact ⟨by rw [R1.out]; rfl, BW.out⟩
end Go.Proofs.YtgibkbeakfaehaaDoor

namespace Go.Proofs.YtgibkbeakfaehaaDoor
open Go.RowKit
set_option maxRecDepth 100000
set_option maxHeartbeats 8000000 in
theorem ptChoose_any (n : Nat) (v dv : Value) (l : List En) (ds : List ByteArray) (w : World) (hv : FilesV w v l) (hd : DrawsV w dv ds) (hn : n ≤ 1000000) (hl : EnsOK n l) (hz : ∀ d ∈ ds.take 8, d.size ≤ 1000) (hT : PtTabs w) :
    Calls Tryd.prog 14 #[v, dv] w fun e w' => e = .returned (.tuple #[.string (chsT (chsP l ds)), .int .i64 (chsE (chsP l ds))]) ∧ Below w.heap.size w w' := by
  have DV := hide hd
  have HC := hide (fun d (hz : d.size ≤ 1000) W (hb : Below w.heap.size w W) => ptClear_any n v l d W (hv.below hb) hn hl hz (hT.below hb))
  have HCl := hide (fun d (hz : d.size ≤ 1000) W => clone_any d W (by omega))
  obtain ⟨RES, hRES⟩ : ∃ R, Hid (chsP l ds = R) := ⟨_, show _ = _ from rfl⟩
  rw [hRES.out]
  obtain ⟨m, hm⟩ : ∃ m, m = (ds.take 8).length := ⟨_, rfl⟩
  have TL : m = min 8 ds.length := by rw [hm, List.length_take]
  obtain ⟨p, c, rfl⟩ := files_formP hv
  have hcap : ∃ p c, dv = .slice p ds.length c ∧ ds.length ≤ c := by obtain ⟨p, c, e, _, hc⟩ := hd; exact ⟨p, c, e, hc⟩
  obtain ⟨pd, cd, rfl, hcap⟩ := hcap
  have HZ := hide hz
  have ST : Hid (((ds.take 8).drop 0).find? (fun d => clrL l (bL d)) = RES) := hRES.out
  have i1 : (m : Int) ≤ (cd : Int) := by omega
  clear hv hd hl hz hRES hT
  have MN : Hid (m = (ds.take 8).length) := hm
  have hml : m ≤ ds.length := by omega
  have hm8 : m ≤ 8 := by omega
  have mi : min (ds.length : Int) 8 = (m : Int) := by omega
  have mx : max (m : Int) 0 = (m : Int) := by omega
  have m0 : (0 : Int) ≤ (m : Int) := by omega
  clear TL hm hcap
  go_enter Tryd.func14, Tryd.ntmps14
  go_wp2_with fail
  go_loopw [14] (fun iv wr => ∃ k : Nat, k ≤ m ∧ iv = .int .i64 k ∧ Hid (((ds.take 8).drop k).find? (fun d => clrL l (bL d)) = RES) ∧ Hid (Below w.heap.size w wr)) (fun iv _ => m - (intOf iv).toNat)
  case atStart => exact ⟨0, Nat.zero_le _, rfl, ST, Below.refl _ _⟩
  case round =>
    rename World => wr
    obtain ⟨k, hk, rfl, HR, BW⟩ := hrel
    clear ST mi mx
    by_cases g : k < m
    · have k1 : (k : Int) < (m : Int) := by omega
      have k0 : (0 : Int) ≤ (k : Int) := by omega
      have gl : k < ds.length := by omega
      have gt : k < (ds.take 8).length := by rw [← MN.out]; exact g
      have et : (ds.take 8)[k] = ds[k] := List.getElem_take
      have zd := HZ.out _ (List.getElem_mem gt)
      rw [et] at zd
      obtain ⟨bb, oo, rfl, x0⟩ := draw_of (DV.out.below BW.out) gl
      have HC1 := hide (HC.out ds[k] zd wr BW.out)
      have HL1 := hide (fun W => HCl.out ds[k] zd W)
      cases cl : clrL l (bL ds[k]) with
      | true =>
        have RR : RES = some ds[k] := by
          rw [← HR.out, find_here (p := fun d => clrL l (bL d)) gt (by rw [et]; exact cl), et]
        rw [cl] at HC1
        have E1 : Hid (ds[k] = chsT RES) := by show _ = _; rw [RR]; rfl
        have E2 : Hid ((0 : Int) = chsE RES) := by show _ = _; rw [RR]; rfl
        clear HR HC HCl HZ DV MN cl RR zd et
        generalize ds[k] = dk at *
        go_wp2_with fail
        refine HC1.out.mono ?_
        rintro e w2 ⟨rfl, b2⟩
        have B2 := hide (chain BW.out b2)
        clear b2 HC1
        go_wp2_with fail
        refine (HL1.out _).mono ?_
        rintro e w3 ⟨rfl, b3⟩
        go_wp2_with fail
        go_ret2
        exact ⟨ret_chs E1.out E2.out, chain B2.out b3⟩
      | false =>
        have RR : Hid (((ds.take 8).drop (k + 1)).find? (fun d => clrL l (bL d)) = RES) := by
          show _ = _
          rw [← HR.out, find_skip (p := fun d => clrL l (bL d)) gt (by rw [et]; exact cl)]
        rw [cl] at HC1
        clear HR HC HCl HZ DV MN cl zd et HL1
        generalize ds[k] = dk at *
        go_wp2_with fail
        refine HC1.out.mono ?_
        rintro e w2 ⟨rfl, b2⟩
        have B2 := hide (chain BW.out b2)
        clear b2 HC1
        go_wp2_with fail
        go_roundw
        case rel => exact ⟨k + 1, by omega, by go_num, RR, B2⟩
        case measure => simp [intOf]; omega
    · obtain rfl : k = m := by omega
      have RR : RES = none := by
        rw [← HR.out, List.drop_of_length_le (by rw [← MN.out]; exact Nat.le_refl _)]; rfl
      have E1 : Hid ((⟨#[]⟩ : ByteArray) = chsT RES) := by show _ = _; rw [RR]; rfl
      have E2 : Hid ((10 : Int) = chsE RES) := by show _ = _; rw [RR]; rfl
      clear HR HC HCl HZ DV MN RR
      go_wp2_with fail
      go_ret2
      exact ⟨ret_chs E1.out E2.out, BW.out⟩
end Go.Proofs.YtgibkbeakfaehaaDoor

namespace Go.Proofs.YtgibkbeakfaehaaDoor
open Go.RowKit
set_option maxRecDepth 100000
set_option maxHeartbeats 8000000 in
theorem partsClear_walk (v dv : Value) (l : List En) (ds : List ByteArray) (w : World) (hv : FilesV w v l) (hf : l.length ≤ 4398046511104) (hd : DrawsV w dv ds) (h16 : ds.length * 16 ≤ 140737488355328) (hz : ∀ d ∈ ds, d.size ≤ maxLen) (hT : PtTabs w) :
    Calls Tryd.prog 3 #[v, dv] w fun e w' => e = .returned (.bool true) ∧ Below w.heap.size w w' := by
  have FV := hide hv
  have DV := hide hd
  have HW := hide (ptWakes_any w hT)
  have HLg := hide (fun W (hb : Below w.heap.size w W) => refLong_any v l W (FV.out.below hb) hf)
  have HS : Hid (∀ d ∈ ds, d.size ≤ 9223372036854775807) := hz
  obtain ⟨pd, cd, rfl⟩ : ∃ p c, dv = .slice p ds.length c := by obtain ⟨p, c, e, _⟩ := hd; exact ⟨p, c, e⟩
  clear hz
  cases lg : longU l with
  | true =>
    rw [lg] at HLg
    obtain ⟨p, c, rfl⟩ := files_formP hv
    clear hv hf hT lg FV hd DV
    go_enter Tryd.func3, Tryd.ntmps3
    go_wp2_with fail
    refine HW.out.mono ?_
    rintro e w1 ⟨rfl, b1⟩
    go_wp2_with fail
    refine (HLg.out _ b1).mono ?_
    rintro e w2 ⟨rfl, hu⟩
    obtain rfl : w1 = w2 := hu.symm
    go_wp2_with fail
    go_ret
    exact ⟨rfl, b1⟩
  | false =>
    obtain ⟨l60, hok⟩ := long_ok lg
    rw [lg] at HLg
    have HFit := hide (fun d (hz : d.size ≤ 1000) W (hb' : Below w.heap.size w W) => ptFit_any d W hz (hT.below hb'))
    have HRf := hide (fun d (hz : d.size ≤ 1000) W => refFit_any d W (by omega))
    have HCl := hide (fun d (hz : d.size ≤ 1000) W (hb' : Below w.heap.size w W) => ptClear_any 2000 v l d W (FV.out.below hb') (by omega) hok hz (hT.below hb'))
    have HRl := hide (fun d (hz : d.size ≤ 1000) W (hb' : Below w.heap.size w W) => refClear_any 2000 v l d W (FV.out.below hb') (by omega) hok (by omega))
    have HCh := hide (fun u W (z8 : ∀ d ∈ ds.take 8, d.size ≤ 1000) (hb' : Below w.heap.size w W) (hu : DrawsV W u ds) => ptChoose_any 2000 v u l ds W (FV.out.below hb') hu (by omega) hok z8 (hT.below hb'))
    have HRc := hide (fun W (z8 : ∀ d ∈ ds.take 8, d.size ≤ 1000) (hb' : Below w.heap.size w W) => refChoose_any 2000 v _ l ds W (FV.out.below hb') (DV.out.below hb') (by omega) hok (fun d hd => by have := z8 d hd; omega))
    have BQ := hide (beq_txtP (chsT (chsP l ds)))
    have EQ : Hid ((chsE (chsP l ds) == chsE (chsP l ds)) = true) := by show _ = _; simp
    have DV0 := hide (len_bL ⟨#[]⟩)
    obtain ⟨p, c, rfl⟩ := files_formP hv
    clear hv hf hT lg hd
    generalize chsT (chsP l ds) = ct at *
    generalize chsE (chsP l ds) = ce at *
    go_enter Tryd.func3, Tryd.ntmps3
    go_wp2_with fail
    refine HW.out.mono ?_
    rintro e w1 ⟨rfl, b1⟩
    go_wp2_with fail
    refine (HLg.out _ b1).mono ?_
    rintro e w2 ⟨rfl, hu⟩
    obtain rfl : w1 = w2 := hu.symm
    clear HLg HW
    go_wp2_with fail
    go_loopw [5] (fun iv wr => ∃ k : Nat, k ≤ ds.length ∧ k ≤ 12 ∧ iv = .int .i64 k ∧ Hid (∀ i (h : i < ds.length), i < k → ds[i].size ≤ 1000) ∧ Hid (Below w.heap.size w wr)) (fun iv _ => 13 - (intOf iv).toNat)
    case atStart => exact ⟨0, Nat.zero_le _, Nat.zero_le _, rfl, fun i h hi => by omega, b1⟩
    case round =>
      rename World => wr
      obtain ⟨k, hk, h12, rfl, ZK, BW⟩ := hrel
      by_cases g : k < ds.length
      · have d0 : decide ((k : Int) < (ds.length : Int)) = true := decide_eq_true (by omega)
        by_cases g12 : k < 12
        · have d1 : decide ((k : Int) < 12) = true := decide_eq_true (by omega)
          have k1 : (k : Int) < (ds.length : Int) := by omega
          have k0 : (0 : Int) ≤ (k : Int) := by omega
          obtain ⟨bb, oo, rfl, x0⟩ := draw_of (DV.out.below BW.out) g
          have zm := HS.out _ (List.getElem_mem g)
          by_cases gz : 1000 < ds[k].size
          · have d2 : decide (1000 < (ds[k].size : Int)) = true := decide_eq_true (by omega)
            clear ZK HFit HRf HCl HRl HCh HRc BQ EQ DV0 HS
            go_wp2_with fail
            go_ret
            exact ⟨rfl, BW.out⟩
          · have d2 : decide (1000 < (ds[k].size : Int)) = false := decide_eq_false (by omega)
            have gz' : ds[k].size ≤ 1000 := by omega
            have ZN : Hid (∀ i (h : i < ds.length), i < k + 1 → ds[i].size ≤ 1000) := fun i h hi => by
              by_cases e : i = k
              · subst e; exact gz'
              · exact ZK.out i h (by omega)
            have HF1 := hide (fun W hb => HFit.out ds[k] gz' W hb)
            have HF2 := hide (fun W (_ : Below w.heap.size w W) => HRf.out ds[k] gz' W)
            have HC1 := hide (fun W hb => HCl.out ds[k] gz' W hb)
            have HC2 := hide (fun W hb => HRl.out ds[k] gz' W hb)
            have BD : Hid (Below w.heap.size w wr.drew) := ⟨BW.out.os, BW.out.tape, BW.out.output, BW.out.size, BW.out.block⟩
            have XC0 : Hid (∀ W, Below w.heap.size w W → W.cell? ⟨bb, oo + k, none⟩ = some (.string ds[k])) := fun W hb => by
              obtain ⟨b2, o2, e2, x2⟩ := draw_of (DV.out.below hb) g
              cases e2
              exact x2
            have n1 : ((fitL (bL ds[k])) != (fitL (bL ds[k]))) = false := by simp
            have n2 : ((clrL l (bL ds[k])) != (clrL l (bL ds[k]))) = false := by simp
            clear ZK HFit HRf HCl HRl HCh HRc BQ EQ DV0 HS gz gz' zm
            have XC := hide XC0.out
            clear XC0
            generalize fitL (bL ds[k]) = f0 at *
            generalize clrL l (bL ds[k]) = c0 at *
            generalize hdk : ds[k] = dk at *
            clear hdk
            go_wp2_with fail
            refine wp_region_held_drew (S := fun X : World => X.cell? ⟨bb, oo + k, none⟩ = some (.string dk)) (by kernel_rfl) ?_ (fun hHeld => ?_)
            · exact x0
            refine wpAnyH_take (i := 0) (oi := { dst := some 30, op := Op.move (Operand.tmp 1), type := 23, pos := "law.go:31", after := #[], guard := none }) (v := ?_) rfl (by kernel_rfl) (by kernel_rfl) (by kernel_rfl) (fun _ _ _ h => h) (Or.inl ⟨by rfl, ?_⟩) (by assumption) ?_
            rotate_left
            · (intro w hSw; (try dsimp only at hSw); first | (go_simp; done) | (go_simp; with_reducible rfl))
            simp only [Act.put, List.setIfInBounds_toArray, List.set_cons_zero, List.set_cons_succ]
            refine wpAnyH_take (i := 1) (oi := { dst := some 31, op := Op.move (Operand.tmp 5), type := 3, pos := "law.go:31", after := #[], guard := none }) (v := ?_) rfl (by kernel_rfl) (by kernel_rfl) (by kernel_rfl) (fun _ _ _ h => h) (Or.inl ⟨by rfl, ?_⟩) (by assumption) ?_
            rotate_left
            · (intro w hSw; (try dsimp only at hSw); first | (go_simp; done) | (go_simp; with_reducible rfl))
            simp only [Act.put, List.setIfInBounds_toArray, List.set_cons_zero, List.set_cons_succ]
            refine wpAnyH_take (i := 2) (oi := { dst := some 32, op := Op.indexAddr 23 (Operand.tmp 30) (Operand.tmp 31), type := 0, pos := "law.go:31", after := #[{ on := 0, ground := Ground.data }, { on := 1, ground := Ground.data }], guard := none }) (v := ?_) rfl (by kernel_rfl) (by kernel_rfl) (by kernel_rfl) (fun _ _ _ h => h) (Or.inl ⟨by rfl, ?_⟩) (by assumption) ?_
            rotate_left
            · (intro w hSw; (try dsimp only at hSw); first | (go_simp; done) | (go_simp; with_reducible rfl))
            simp only [Act.put, List.setIfInBounds_toArray, List.set_cons_zero, List.set_cons_succ]
            refine wpAnyH_take (i := 3) (oi := { dst := some 33, op := Op.load 9 (Operand.tmp 32), type := 9, pos := "law.go:31", after := #[{ on := 2, ground := Ground.data }], guard := none }) (v := ?_) rfl (by kernel_rfl) (by kernel_rfl) (by kernel_rfl) (fun _ _ _ h => h) (Or.inl ⟨by rfl, ?_⟩) (by assumption) ?_
            rotate_left
            · (intro w hSw; (try dsimp only at hSw); first | (go_simp; done) | (go_simp; with_reducible rfl))
            simp only [Act.put, List.setIfInBounds_toArray, List.set_cons_zero, List.set_cons_succ]
            refine wpAnyH_take (i := 5) (oi := { dst := some 35, op := Op.move (Operand.tmp 1), type := 23, pos := "law.go:31", after := #[], guard := none }) (v := ?_) rfl (by kernel_rfl) (by kernel_rfl) (by kernel_rfl) (fun _ _ _ h => h) (Or.inl ⟨by rfl, ?_⟩) (by assumption) ?_
            rotate_left
            · (intro w hSw; (try dsimp only at hSw); first | (go_simp; done) | (go_simp; with_reducible rfl))
            simp only [Act.put, List.setIfInBounds_toArray, List.set_cons_zero, List.set_cons_succ]
            refine wpAnyH_take (i := 6) (oi := { dst := some 36, op := Op.move (Operand.tmp 5), type := 3, pos := "law.go:31", after := #[], guard := none }) (v := ?_) rfl (by kernel_rfl) (by kernel_rfl) (by kernel_rfl) (fun _ _ _ h => h) (Or.inl ⟨by rfl, ?_⟩) (by assumption) ?_
            rotate_left
            · (intro w hSw; (try dsimp only at hSw); first | (go_simp; done) | (go_simp; with_reducible rfl))
            simp only [Act.put, List.setIfInBounds_toArray, List.set_cons_zero, List.set_cons_succ]
            refine wpAnyH_take (i := 7) (oi := { dst := some 37, op := Op.indexAddr 23 (Operand.tmp 35) (Operand.tmp 36), type := 0, pos := "law.go:31", after := #[{ on := 5, ground := Ground.data }, { on := 6, ground := Ground.data }], guard := none }) (v := ?_) rfl (by kernel_rfl) (by kernel_rfl) (by kernel_rfl) (fun _ _ _ h => h) (Or.inl ⟨by rfl, ?_⟩) (by assumption) ?_
            rotate_left
            · (intro w hSw; (try dsimp only at hSw); first | (go_simp; done) | (go_simp; with_reducible rfl))
            simp only [Act.put, List.setIfInBounds_toArray, List.set_cons_zero, List.set_cons_succ]
            refine wpAnyH_take (i := 8) (oi := { dst := some 38, op := Op.load 9 (Operand.tmp 37), type := 9, pos := "law.go:31", after := #[{ on := 7, ground := Ground.data }], guard := none }) (v := ?_) rfl (by kernel_rfl) (by kernel_rfl) (by kernel_rfl) (fun _ _ _ h => h) (Or.inl ⟨by rfl, ?_⟩) (by assumption) ?_
            rotate_left
            · (intro w hSw; (try dsimp only at hSw); first | (go_simp; done) | (go_simp; with_reducible rfl))
            simp only [Act.put, List.setIfInBounds_toArray, List.set_cons_zero, List.set_cons_succ]
            refine wpAnyH_ready (rs := [4]) (by kernel_rfl) (by simp) ?_
            refine AllReadyH.cons (i := 4) (o := { dst := some 34, op := Op.call { callee := Callee.value (Operand.func 10), args := #[Operand.tmp 33], argTypes := #[9] }, type := 4, pos := "law.go:31", after := #[{ on := 3, ground := Ground.data }], guard := none }) rfl (fun K hK => ?_) AllReadyH.nil
            go_simp
            refine (HF1.out _ BD.out).mono ?_
            rintro e wa ⟨rfl, bx⟩
            have Cwa := hide (chain BD.out bx)
            clear bx
            go_wp2_with fail
            refine hK.out _ _ ?_ (fun hHeld => ?_)
            · exact XC.out _ Cwa.out
            clear hK K
            refine wpAnyH_ready (rs := [9]) (by kernel_rfl) (by simp) ?_
            refine AllReadyH.cons (i := 9) (o := { dst := some 39, op := Op.call { callee := Callee.value (Operand.func 11), args := #[Operand.tmp 38], argTypes := #[9] }, type := 4, pos := "law.go:31", after := #[{ on := 8, ground := Ground.data }, { on := 4, ground := Ground.chain }], guard := none }) rfl (fun K hK => ?_) AllReadyH.nil
            go_simp
            refine (HF2.out _ Cwa.out).mono ?_
            rintro e wb ⟨rfl, bx⟩
            have Cwb := hide (chain Cwa.out bx)
            clear bx
            go_wp2_with fail
            refine hK.out _ _ ?_ (fun hHeld => ?_)
            · exact XC.out _ Cwb.out
            clear hK K
            refine wpAnyH_take (i := 10) (oi := { dst := some 40, op := Op.binOp BinOp.neq 4 (Operand.tmp 34) (Operand.tmp 39) 4, type := 4, pos := "law.go:31", after := #[{ on := 4, ground := Ground.data }, { on := 9, ground := Ground.data }], guard := none }) (v := ?_) rfl (by kernel_rfl) (by kernel_rfl) (by kernel_rfl) (fun _ _ _ h => h) (Or.inl ⟨by rfl, ?_⟩) (by assumption) ?_
            rotate_left
            · (intro w hSw; (try dsimp only at hSw); first | (go_simp; done) | (go_simp; with_reducible rfl))
            simp only [Act.put, List.setIfInBounds_toArray, List.set_cons_zero, List.set_cons_succ]
            refine wpAnyH_take (i := 11) (oi := { dst := some 41, op := Op.move (Operand.tmp 40), type := 4, pos := "law.go:31", after := #[{ on := 10, ground := Ground.data }, { on := 9, ground := Ground.chain }], guard := none }) (v := ?_) rfl (by kernel_rfl) (by kernel_rfl) (by kernel_rfl) (fun _ _ _ h => h) (Or.inl ⟨by rfl, ?_⟩) (by assumption) ?_
            rotate_left
            · (intro w hSw; (try dsimp only at hSw); first | (go_simp; done) | (go_simp; with_reducible rfl))
            simp only [Act.put, List.setIfInBounds_toArray, List.set_cons_zero, List.set_cons_succ]
            refine wpAnyH_take (i := 12) (oi := { dst := some 42, op := Op.move (Operand.tmp 0), type := 22, pos := "law.go:31", after := #[{ on := 11, ground := Ground.guard }], guard := some (11, false) }) (v := ?_) rfl (by kernel_rfl) (by kernel_rfl) (by kernel_rfl) (fun _ _ _ h => h) (Or.inl ⟨by rfl, ?_⟩) (by assumption) ?_
            rotate_left
            · (intro w hSw; (try dsimp only at hSw); first | (go_simp; done) | (go_simp; with_reducible rfl))
            simp only [Act.put, List.setIfInBounds_toArray, List.set_cons_zero, List.set_cons_succ]
            refine wpAnyH_take (i := 13) (oi := { dst := some 43, op := Op.move (Operand.tmp 1), type := 23, pos := "law.go:31", after := #[{ on := 11, ground := Ground.guard }], guard := some (11, false) }) (v := ?_) rfl (by kernel_rfl) (by kernel_rfl) (by kernel_rfl) (fun _ _ _ h => h) (Or.inl ⟨by rfl, ?_⟩) (by assumption) ?_
            rotate_left
            · (intro w hSw; (try dsimp only at hSw); first | (go_simp; done) | (go_simp; with_reducible rfl))
            simp only [Act.put, List.setIfInBounds_toArray, List.set_cons_zero, List.set_cons_succ]
            refine wpAnyH_take (i := 14) (oi := { dst := some 44, op := Op.move (Operand.tmp 5), type := 3, pos := "law.go:31", after := #[{ on := 11, ground := Ground.guard }], guard := some (11, false) }) (v := ?_) rfl (by kernel_rfl) (by kernel_rfl) (by kernel_rfl) (fun _ _ _ h => h) (Or.inl ⟨by rfl, ?_⟩) (by assumption) ?_
            rotate_left
            · (intro w hSw; (try dsimp only at hSw); first | (go_simp; done) | (go_simp; with_reducible rfl))
            simp only [Act.put, List.setIfInBounds_toArray, List.set_cons_zero, List.set_cons_succ]
            refine wpAnyH_take (i := 15) (oi := { dst := some 45, op := Op.indexAddr 23 (Operand.tmp 43) (Operand.tmp 44), type := 0, pos := "law.go:31", after := #[{ on := 13, ground := Ground.data }, { on := 14, ground := Ground.data }, { on := 11, ground := Ground.guard }], guard := some (11, false) }) (v := ?_) rfl (by kernel_rfl) (by kernel_rfl) (by kernel_rfl) (fun _ _ _ h => h) (Or.inl ⟨by rfl, ?_⟩) (by assumption) ?_
            rotate_left
            · (intro w hSw; (try dsimp only at hSw); first | (go_simp; done) | (go_simp; with_reducible rfl))
            simp only [Act.put, List.setIfInBounds_toArray, List.set_cons_zero, List.set_cons_succ]
            refine wpAnyH_take (i := 16) (oi := { dst := some 46, op := Op.load 9 (Operand.tmp 45), type := 9, pos := "law.go:31", after := #[{ on := 15, ground := Ground.data }, { on := 11, ground := Ground.guard }], guard := some (11, false) }) (v := ?_) rfl (by kernel_rfl) (by kernel_rfl) (by kernel_rfl) (fun _ _ _ h => h) (Or.inl ⟨by rfl, ?_⟩) (by assumption) ?_
            rotate_left
            · (intro w hSw; (try dsimp only at hSw); first | (go_simp; done) | (go_simp; with_reducible rfl))
            simp only [Act.put, List.setIfInBounds_toArray, List.set_cons_zero, List.set_cons_succ]
            refine wpAnyH_take (i := 18) (oi := { dst := some 48, op := Op.move (Operand.tmp 0), type := 22, pos := "law.go:31", after := #[{ on := 11, ground := Ground.guard }], guard := some (11, false) }) (v := ?_) rfl (by kernel_rfl) (by kernel_rfl) (by kernel_rfl) (fun _ _ _ h => h) (Or.inl ⟨by rfl, ?_⟩) (by assumption) ?_
            rotate_left
            · (intro w hSw; (try dsimp only at hSw); first | (go_simp; done) | (go_simp; with_reducible rfl))
            simp only [Act.put, List.setIfInBounds_toArray, List.set_cons_zero, List.set_cons_succ]
            refine wpAnyH_take (i := 19) (oi := { dst := some 49, op := Op.move (Operand.tmp 1), type := 23, pos := "law.go:31", after := #[{ on := 11, ground := Ground.guard }], guard := some (11, false) }) (v := ?_) rfl (by kernel_rfl) (by kernel_rfl) (by kernel_rfl) (fun _ _ _ h => h) (Or.inl ⟨by rfl, ?_⟩) (by assumption) ?_
            rotate_left
            · (intro w hSw; (try dsimp only at hSw); first | (go_simp; done) | (go_simp; with_reducible rfl))
            simp only [Act.put, List.setIfInBounds_toArray, List.set_cons_zero, List.set_cons_succ]
            refine wpAnyH_take (i := 20) (oi := { dst := some 50, op := Op.move (Operand.tmp 5), type := 3, pos := "law.go:31", after := #[{ on := 11, ground := Ground.guard }], guard := some (11, false) }) (v := ?_) rfl (by kernel_rfl) (by kernel_rfl) (by kernel_rfl) (fun _ _ _ h => h) (Or.inl ⟨by rfl, ?_⟩) (by assumption) ?_
            rotate_left
            · (intro w hSw; (try dsimp only at hSw); first | (go_simp; done) | (go_simp; with_reducible rfl))
            simp only [Act.put, List.setIfInBounds_toArray, List.set_cons_zero, List.set_cons_succ]
            refine wpAnyH_take (i := 21) (oi := { dst := some 51, op := Op.indexAddr 23 (Operand.tmp 49) (Operand.tmp 50), type := 0, pos := "law.go:31", after := #[{ on := 19, ground := Ground.data }, { on := 20, ground := Ground.data }, { on := 11, ground := Ground.guard }], guard := some (11, false) }) (v := ?_) rfl (by kernel_rfl) (by kernel_rfl) (by kernel_rfl) (fun _ _ _ h => h) (Or.inl ⟨by rfl, ?_⟩) (by assumption) ?_
            rotate_left
            · (intro w hSw; (try dsimp only at hSw); first | (go_simp; done) | (go_simp; with_reducible rfl))
            simp only [Act.put, List.setIfInBounds_toArray, List.set_cons_zero, List.set_cons_succ]
            refine wpAnyH_take (i := 22) (oi := { dst := some 52, op := Op.load 9 (Operand.tmp 51), type := 9, pos := "law.go:31", after := #[{ on := 21, ground := Ground.data }, { on := 11, ground := Ground.guard }], guard := some (11, false) }) (v := ?_) rfl (by kernel_rfl) (by kernel_rfl) (by kernel_rfl) (fun _ _ _ h => h) (Or.inl ⟨by rfl, ?_⟩) (by assumption) ?_
            rotate_left
            · (intro w hSw; (try dsimp only at hSw); first | (go_simp; done) | (go_simp; with_reducible rfl))
            simp only [Act.put, List.setIfInBounds_toArray, List.set_cons_zero, List.set_cons_succ]
            refine wpAnyH_ready (rs := [17]) (by kernel_rfl) (by simp) ?_
            refine AllReadyH.cons (i := 17) (o := { dst := some 47, op := Op.call { callee := Callee.value (Operand.func 12), args := #[Operand.tmp 42, Operand.tmp 46], argTypes := #[22, 9] }, type := 4, pos := "law.go:31", after := #[{ on := 12, ground := Ground.data }, { on := 16, ground := Ground.data }, { on := 11, ground := Ground.chain }, { on := 11, ground := Ground.guard }], guard := some (11, false) }) rfl (fun K hK => ?_) AllReadyH.nil
            go_simp
            refine (HC1.out _ Cwb.out).mono ?_
            rintro e wc ⟨rfl, bx⟩
            have Cwc := hide (chain Cwb.out bx)
            clear bx
            go_wp2_with fail
            refine hK.out _ _ ?_ (fun hHeld => ?_)
            · exact XC.out _ Cwc.out
            clear hK K
            refine wpAnyH_ready (rs := [23]) (by kernel_rfl) (by simp) ?_
            refine AllReadyH.cons (i := 23) (o := { dst := some 53, op := Op.call { callee := Callee.value (Operand.func 13), args := #[Operand.tmp 48, Operand.tmp 52], argTypes := #[22, 9] }, type := 4, pos := "law.go:31", after := #[{ on := 18, ground := Ground.data }, { on := 22, ground := Ground.data }, { on := 17, ground := Ground.chain }, { on := 11, ground := Ground.guard }], guard := some (11, false) }) rfl (fun K hK => ?_) AllReadyH.nil
            go_simp
            refine (HC2.out _ Cwc.out).mono ?_
            rintro e wd ⟨rfl, bx⟩
            have Cwd := hide (chain Cwc.out bx)
            clear bx
            go_wp2_with fail
            refine hK.out _ _ ?_ (fun hHeld => ?_)
            · exact XC.out _ Cwd.out
            clear hK K
            refine wpAnyH_take (i := 24) (oi := { dst := some 54, op := Op.binOp BinOp.neq 4 (Operand.tmp 47) (Operand.tmp 53) 4, type := 4, pos := "law.go:31", after := #[{ on := 17, ground := Ground.data }, { on := 23, ground := Ground.data }, { on := 11, ground := Ground.guard }], guard := some (11, false) }) (v := ?_) rfl (by kernel_rfl) (by kernel_rfl) (by kernel_rfl) (fun _ _ _ h => h) (Or.inl ⟨by rfl, ?_⟩) (by assumption) ?_
            rotate_left
            · (intro w hSw; (try dsimp only at hSw); first | (go_simp; done) | (go_simp; with_reducible rfl))
            simp only [Act.put, List.setIfInBounds_toArray, List.set_cons_zero, List.set_cons_succ]
            refine wpAnyH_take (i := 25) (oi := { dst := some 55, op := Op.pick (Operand.tmp 41) (Operand.const (Value.bool true)) (Operand.tmp 54), type := 4, pos := "law.go:31", after := #[{ on := 11, ground := Ground.data }, { on := 24, ground := Ground.data }], guard := none }) (v := ?_) rfl (by kernel_rfl) (by kernel_rfl) (by kernel_rfl) (fun _ _ _ h => h) (Or.inl ⟨by rfl, ?_⟩) (by assumption) ?_
            rotate_left
            · (intro w hSw; (try dsimp only at hSw); first | (go_simp; done) | (go_simp; with_reducible rfl))
            simp only [Act.put, List.setIfInBounds_toArray, List.set_cons_zero, List.set_cons_succ]
            refine wpAnyH_done (by kernel_rfl) ?_ _
            go_wp2_with fail
            go_roundw
            case rel => exact ⟨k + 1, by omega, by omega, by go_num, ZN, Cwd⟩
            case measure => simp [intOf]; omega
        · have d1 : decide ((k : Int) < 12) = false := decide_eq_false (by omega)
          have Z8 : Hid (∀ d ∈ ds.take 8, d.size ≤ 1000) := fun d hd => by
            obtain ⟨i, hi, rfl⟩ := List.mem_iff_getElem.1 hd
            rw [List.getElem_take]
            rw [List.length_take] at hi
            exact ZK.out i (by omega) (by omega)
          clear ZK HFit HRf HCl HRl
          clear DV0 HS
          have OE := hide (tx_empty wr)
          have A1 : Hid (Below wr.heap.size wr (wr.alloc (.cells #[] 9))) := (Below.refl _ wr).alloc (Nat.le_refl _) _
          have DA := hide ((DV.out.below BW.out).below A1.out)
          have SA := hide A1.out.size
          go_wp2_with (at_builtin; refine wpList_append_tx0 rfl _ _ rfl wr.heap.size _ rfl OE.out _ ds rfl DA.out h16 SA.out ?_; intro q2 c2 w2 d2 b2)
          have B2 : Hid (Below w.heap.size w w2) := BW.out.trans ((A1.out.trans b2).mono BW.out.size)
          have D2 := hide d2
          clear OE A1 DA SA d2 b2
          refine (HCh.out _ _ Z8.out B2.out D2.out).mono ?_
          rintro e w3 ⟨rfl, b3⟩
          have B3 := hide (chain B2.out b3)
          clear b3 B2 D2
          go_wp2_with fail
          refine (HRc.out _ Z8.out B3.out).mono ?_
          rintro e w4 ⟨rfl, b4⟩
          have q1 := BQ.out
          have q3 := EQ.out
          go_wp2_with fail
          go_ret
          exact ⟨rfl, chain B3.out b4⟩
      · have d0 : decide ((k : Int) < (ds.length : Int)) = false := decide_eq_false (by omega)
        have Z8 : Hid (∀ d ∈ ds.take 8, d.size ≤ 1000) := fun d hd => by
          obtain ⟨i, hi, rfl⟩ := List.mem_iff_getElem.1 hd
          rw [List.getElem_take]
          rw [List.length_take] at hi
          exact ZK.out i (by omega) (by omega)
        clear ZK HFit HRf HCl HRl
        clear DV0 HS
        have OE := hide (tx_empty wr)
        have A1 : Hid (Below wr.heap.size wr (wr.alloc (.cells #[] 9))) := (Below.refl _ wr).alloc (Nat.le_refl _) _
        have DA := hide ((DV.out.below BW.out).below A1.out)
        have SA := hide A1.out.size
        go_wp2_with (at_builtin; refine wpList_append_tx0 rfl _ _ rfl wr.heap.size _ rfl OE.out _ ds rfl DA.out h16 SA.out ?_; intro q2 c2 w2 d2 b2)
        have B2 : Hid (Below w.heap.size w w2) := BW.out.trans ((A1.out.trans b2).mono BW.out.size)
        have D2 := hide d2
        clear OE A1 DA SA d2 b2
        refine (HCh.out _ _ Z8.out B2.out D2.out).mono ?_
        rintro e w3 ⟨rfl, b3⟩
        have B3 := hide (chain B2.out b3)
        clear b3 B2 D2
        go_wp2_with fail
        refine (HRc.out _ Z8.out B3.out).mono ?_
        rintro e w4 ⟨rfl, b4⟩
        have q1 := BQ.out
        have q3 := EQ.out
        go_wp2_with fail
        go_ret
        exact ⟨rfl, chain B3.out b4⟩

end Go.Proofs.YtgibkbeakfaehaaDoor
