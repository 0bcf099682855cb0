/- The program's copied of layer 10: the same nodes, each row in a block of its own. Conditions: a right document as it lies in the world. -/
import Derived.Test.YtkloahpkjbohoaaDocH
import Derived.Test.YtkloahpkjbohoaaDocF
import Derived.Test.YtkloahpkjbohoaaDocLib
import Derived.Test.YtkloahpkjbohoaaDocR3
import Derived.Test.YtkloahpkjbohoaaDocL
import Derived.Test.YtkloahpkjbohoaaDocD
import Derived.Deep.DeepCutAuto
import Derived.Deep.RegionHeld3
import Derived.Deep.RegionWith
import Derived.BigRegion
namespace Go.Proofs.Ytkloahpkjbohoaa
open Go.RowKit

/-- Two cells that may be stored into stay so. -/
theorem keep2 {W W' : World} {p q : Addr} {x y : Value} (h : W.cell? p = some x ∧ W.frozen? p = false ∧ W.cell? q = some y ∧ W.frozen? q = false) (hb : Below W.heap.size W W') : W'.cell? p = some x ∧ W'.frozen? p = false ∧ W'.cell? q = some y ∧ W'.frozen? q = false :=
  ⟨cell_below h.1 hb, (hb.frozen (World.block_lt_of_cell? _ _ h.1)).trans h.2.1, cell_below h.2.2.1 hb, (hb.frozen (World.block_lt_of_cell? _ _ h.2.2.1)).trans h.2.2.2⟩
theorem keep2p {W : World} {p q : Addr} {x y : Value} (h : W.cell? p = some x ∧ W.frozen? p = false ∧ W.cell? q = some y ∧ W.frozen? q = false) (hne : q ≠ p) : (W.setCell p x).cell? p = some x ∧ (W.setCell p x).frozen? p = false ∧ (W.setCell p x).cell? q = some y ∧ (W.setCell p x).frozen? q = false :=
  ⟨World.cell?_setCell_same _ _ _ (by rw [h.1]), (World.frozen?_setCell ..).trans h.2.1, (World.cell?_setCell_other _ _ _ _ hne.symm).trans h.2.2.1, (World.frozen?_setCell ..).trans h.2.2.2⟩
theorem keep2q {W : World} {p q : Addr} {x y : Value} (h : W.cell? p = some x ∧ W.frozen? p = false ∧ W.cell? q = some y ∧ W.frozen? q = false) (hne : p ≠ q) : (W.setCell q y).cell? p = some x ∧ (W.setCell q y).frozen? p = false ∧ (W.setCell q y).cell? q = some y ∧ (W.setCell q y).frozen? q = false :=
  ⟨(World.cell?_setCell_other _ _ _ _ hne.symm).trans h.1, (World.frozen?_setCell ..).trans h.2.1, World.cell?_setCell_same _ _ _ (by rw [h.2.2.1]), (World.frozen?_setCell ..).trans h.2.2.2⟩
theorem undrew {B : Nat} {a b : World} (h : Below B a.drew b) : Below B a b := ⟨h.os, h.tape, h.output, h.size, h.block⟩
theorem addr_ne {b o o' : Nat} (h : o ≠ o') : (⟨b, o, none⟩ : Addr) ≠ ⟨b, o', none⟩ := fun e => h (by cases e; rfl)
theorem set_app {D R : List NdV} {x x' : NdV} : (D ++ x :: R).set D.length x' = D ++ x' :: R := by
  rw [List.set_append_right _ _ (Nat.le_refl _), Nat.sub_self]; rfl
theorem row_set {w : World} {base : Nat} {v : Value} {n G : Nat} {D R : List NdV} {x x' : NdV} {j : Nat} {u : Value} (h : w.ownsRow base 45 5 v n (cellsV (D ++ x :: R))) (hg : v.ownBlock = some G) (hj : j < 5) (hx : (cellsN x).set j u = cellsN x') : (w.setCell ⟨G, D.length * 5 + j, none⟩ u).ownsRow base 45 5 v n (cellsV (D ++ x' :: R)) := by
  have := owns_set h hg (D.length * 5 + j) u
  have e := cellsV_set (L := D ++ x :: R) (i := D.length) (by rw [List.length_append, List.length_cons]; omega) (j := j) (u := u) (x' := x') hj (by rw [List.getElem_append_right (Nat.le_refl _)]; simp only [Nat.sub_self, List.getElem_cons_zero]; exact hx)
  rw [set_app] at e
  rwa [e] at this
/-- Two rows that were made one behind the other. -/
theorem two_kids {W0 wk wa W' : World} {B G : Nat} {qk qa : Option Addr} {xk xa : Nat} {ks : List Int} {ax : List (ByteArray × ByteArray)} (fk : Fresh W0 wk 3 1 qk xk ks.length (cellsI ks)) (fa : Fresh wk wa 48 2 qa xa ax.length (cellsA ax)) (hG : G < W0.heap.size) (hB : B ≤ W0.heap.size) (hs : Chg [G] wa W') :
    KidsO B W' (.slice qk ks.length xk) ks ∧ AttrsO B W' (.slice qa ax.length xa) ax ∧ (∀ k, (Value.slice qk ks.length xk).ownBlock = some k → W0.heap.size ≤ k) ∧ (∀ k, (Value.slice qa ax.length xa).ownBlock = some k → W0.heap.size ≤ k) ∧ (∀ k, (Value.slice qa ax.length xa).ownBlock = some k → (Value.slice qk ks.length xk).ownBlock ≠ some k) := by
  have s1 := fk.2.1.size
  refine ⟨?_, ?_, fun k hk => Nat.le_of_eq (fk.2.2 k hk).symm, fun k hk => by rw [fa.2.2 k hk]; exact s1, fun k hk e => ?_⟩
  · refine owns_mono (base := W0.heap.size) ?_ hB
    refine owns_kept (owns_kept fk.1 (Chg.of_below fa.2.1) (fun _ _ q => by cases q)) hs fun k hk q => ?_
    have := fk.2.2 k hk
    have := List.mem_singleton.1 q
    omega
  · refine owns_mono (base := wk.heap.size) ?_ (by omega)
    refine owns_kept fa.1 hs fun k hk q => ?_
    have := fa.2.2 k hk
    have := List.mem_singleton.1 q
    omega
  · have := (fk.1.lt k e).2
    have := fa.2.2 k hk
    omega
theorem two_attrs {W0 wk wa W' : World} {B G : Nat} {qk qa : Option Addr} {xk xa : Nat} {ks : List Int} {ax : List (ByteArray × ByteArray)} (fa : Fresh W0 wa 48 2 qa xa ax.length (cellsA ax)) (fk : Fresh wa wk 3 1 qk xk ks.length (cellsI ks)) (hG : G < W0.heap.size) (hB : B ≤ W0.heap.size) (hs : Chg [G] wk W') :
    KidsO B W' (.slice qk ks.length xk) ks ∧ AttrsO B W' (.slice qa ax.length xa) ax ∧ (∀ k, (Value.slice qk ks.length xk).ownBlock = some k → W0.heap.size ≤ k) ∧ (∀ k, (Value.slice qa ax.length xa).ownBlock = some k → W0.heap.size ≤ k) ∧ (∀ k, (Value.slice qa ax.length xa).ownBlock = some k → (Value.slice qk ks.length xk).ownBlock ≠ some k) := by
  have s1 := fa.2.1.size
  refine ⟨?_, ?_, fun k hk => by rw [fk.2.2 k hk]; exact s1, fun k hk => Nat.le_of_eq (fa.2.2 k hk).symm, fun k hk e => ?_⟩
  · refine owns_mono (base := wa.heap.size) ?_ (by omega)
    refine owns_kept fk.1 hs fun k hk q => ?_
    have := fk.2.2 k hk
    have := List.mem_singleton.1 q
    omega
  · refine owns_mono (base := W0.heap.size) ?_ hB
    refine owns_kept (owns_kept fa.1 (Chg.of_below fk.2.1) (fun _ _ q => by cases q)) hs fun k hk q => ?_
    have := fa.2.2 k hk
    have := List.mem_singleton.1 q
    omega
  · have := (fa.1.lt k hk).2
    have := fk.2.2 k e
    omega
/-- Texts of a right document are short. -/
theorem right_texts {l : List Nd} (h : Right l) {i : Nat} (hi : i < l.length) : l[i].name.size ≤ 4000 ∧ l[i].text.size ≤ 4000 ∧ (∀ a ∈ l[i].attrs, a.1.size ≤ 4000 ∧ a.2.size ≤ 4000) ∧ l[i].attrs.length ≤ 40 ∧ l[i].kids.length ≤ 400 := by
  have al := h.alone i hi
  have kn := kids_nodup h hi
  have kl := nodup_len l.length _ kn (fun x hx => by have := h.kid i hi x hx; exact ⟨this.1, this.2.1⟩)
  have hl := h.len
  rw [nd_at hi] at al kl
  have NS : ∀ s : ByteArray, nameOk s = true → s.size ≤ 4000 := fun s hs => by
    unfold nameOk at hs
    rw [Bool.and_eq_true, decide_eq_true_eq] at hs
    omega
  by_cases nn : l[i].name.size = 0
  · unfold aloneB at al
    rw [if_pos nn, Bool.and_eq_true, Bool.and_eq_true, decide_eq_true_eq] at al
    have : l[i].attrs = [] := List.isEmpty_iff.1 al.1
    rw [this]
    exact ⟨by omega, al.2.2, (fun a q => by cases q), by simp, by omega⟩
  · have at' := alone_attrs al nn
    unfold aloneB at al
    rw [if_neg nn, Bool.and_eq_true, Bool.and_eq_true, beq_iff_eq] at al
    exact ⟨NS _ al.1, by omega, fun a ha => ⟨NS _ (at'.2.each a ha).1, (at'.2.each a ha).2⟩, at'.1, by omega⟩
set_option maxHeartbeats 8000000 in
set_option maxRecDepth 100000 in
theorem copied_any (v : Value) (l : List Nd) (w : World) (hv : NodesV w v l) (hR : Right l) :
    Calls Try.prog 45 #[v] w fun e w' => ∃ v' L, e = .returned v' ∧ OwnD w.heap.size w' v' L ∧ ndsOf L = l ∧ Below w.heap.size w w' := by
  obtain ⟨L0, hL0, RAW, RWS, FRM⟩ := nodes_raw hv
  have hlen := hR.len.2
  have h1 := hR.len.1
  have LL : L0.length = l.length := by rw [← hL0, ndsOf_len]
  have HF := hide (freshN_any v l.length (cellsV L0) w RAW (cellsV_one (fun x hx => by
    obtain ⟨⟨p, n, c, e⟩, p', n', c', e'⟩ := FRM x hx
    rw [e, e']; exact ⟨rfl, rfl⟩)) (by omega))
  have HT : Hid (∀ i (hi : i < L0.length), L0[i].n.name.size ≤ 4000 ∧ L0[i].n.text.size ≤ 4000 ∧ (∀ a ∈ L0[i].n.attrs, a.1.size ≤ 4000 ∧ a.2.size ≤ 4000) ∧ L0[i].n.attrs.length ≤ 40 ∧ L0[i].n.kids.length ≤ 400) := fun i hi => by
    have := right_texts hR (i := i) (by omega)
    have e : l[i]'(by omega) = L0[i].n := by
      have := ndsOf_get (L := L0) (i := i) (by rw [ndsOf_len]; exact hi)
      rw [← this]
      congr 1
      exact hL0.symm
    rw [e] at this
    exact this
  have HW := hide RWS
  have HFm := hide FRM
  have HL0 := hide hL0
  clear RAW RWS FRM hv hR
  generalize hB : w.heap.size = B at *
  go_enter Try.func45, Try.ntmps45
  go_wp2_with fail
  refine HF.out.mono ?_
  rintro e w1 ⟨q1, c1, rfl, f1, f2, f3⟩
  rw [hB] at f1 f2
  obtain ⟨G, cp, ev, eb, g0, g1, _⟩ := owns_at f1 (by omega)
  have ev := ev
  cases ev
  have H1 : Hid (Half B w1 (.slice (some ⟨G, 0, none⟩) l.length c1) [] L0) := ⟨by rw [List.nil_append, LL]; exact f1, (fun x q => by cases q), (fun x q => by cases q), by simp [Value.ownBlock]⟩
  have B1 := hide f2
  clear f1 f2 f3 HF eb
  go_wp2_with fail
  go_loopw [12] (fun iv wr => ∃ (i : Nat) (D : List NdV), i ≤ l.length ∧ iv = .int .i64 i ∧ Hid (D.length = i ∧ ndsOf D = l.take i) ∧ Hid (Half B wr (.slice (some ⟨G, 0, none⟩) l.length c1) D (L0.drop i)) ∧ Hid (Below B w wr)) (fun iv _ => l.length - (intOf iv).toNat)
  case atStart => exact ⟨0, [], Nat.zero_le _, rfl, ⟨rfl, rfl⟩, by show Half _ _ _ _ _; rw [List.drop_zero]; exact H1.out, B1⟩
  case round =>
    rename World => wr
    obtain ⟨i, D, hi, rfl, HD, HH, BW⟩ := hrel
    clear H1 B1
    by_cases h : i < l.length
    · have i1 : (i : Int) < (l.length : Int) := by omega
      have i0 : (0 : Int) ≤ (i : Int) := by omega
      have hi0 : i < L0.length := by omega
      have ed : L0.drop i = L0[i] :: L0.drop (i + 1) := List.drop_eq_getElem_cons hi0
      have HH' := hide HH.out
      rw [ed] at HH'
      have dl : D.length = i := HD.out.1
      have CV : Hid (∀ j u, j < 5 → (cellsN L0[i])[j]? = some u → (cellsV (D ++ L0[i] :: L0.drop (i + 1)))[i * 5 + j]? = some u) := fun j u hj hu => by
        rw [cellsV_at (L := D ++ L0[i] :: L0.drop (i + 1)) (i := i) (by rw [List.length_append, List.length_cons]; omega) hj]
        rw [List.getElem_append_right (by omega)]
        simp only [dl, Nat.sub_self, List.getElem_cons_zero]
        exact hu
      have CS : Hid (∀ x' : NdV, ∀ j u, j < 5 → (cellsN x').set j u = cellsN x' → True) := fun _ _ _ _ _ => trivial
      have TX := HT.out i hi0
      obtain ⟨⟨pa, na, ca, ea⟩, pk, nk, ck, ek⟩ := HFm.out L0[i] (List.getElem_mem _)
      have RW0 := HW.out L0[i] (List.getElem_mem _)
      have XN : Hid (L0[i].n = l[i]) := by
        show _ = _
        have := ndsOf_get (L := L0) (i := i) (by rw [ndsOf_len]; exact hi0)
        rw [← this]
        congr 1
      clear HH ed CS
      generalize L0[i] = x at *
      obtain ⟨n, a, k⟩ := x
      simp only at ea ek TX RW0
      subst ea ek
      obtain rfl : na = n.attrs.length := by obtain ⟨p', c', e, _⟩ := RW0.1; cases e; rfl
      obtain rfl : nk = n.kids.length := by obtain ⟨p', c', e, _⟩ := RW0.2; cases e; rfl
      have VB : (Value.slice (some ⟨G, 0, none⟩) l.length c1).ownBlock = some G := rfl
      have c0 := owns_cell HH'.out.row VB (CV.out 0 _ (by omega) rfl)
      have c1' := owns_cell HH'.out.row VB (CV.out 1 _ (by omega) rfl)
      have c2 := owns_cell HH'.out.row VB (CV.out 2 _ (by omega) rfl)
      have c4 := owns_cell HH'.out.row VB (CV.out 4 _ (by omega) rfl)
      have f0 := owns_free HH'.out.row VB (i * 5)
      have f1 := owns_free HH'.out.row VB (i * 5 + 1)
      have HCn := hide (fun W => clone_any n.name W (by have := TX.1; omega))
      have HCt := hide (fun W => clone_any n.text W (by have := TX.2.1; omega))
      rw [Nat.add_zero] at c0
      go_wp2_with fail
      go_cut [18] (fun _ wx => Hid (wx.ownsRow B 45 5 (.slice (some ⟨G, 0, none⟩) l.length c1) (D ++ ⟨n, .slice pa n.attrs.length ca, .slice pk n.kids.length ck⟩ :: L0.drop (i + 1)).length (cellsV (D ++ ⟨n, .slice pa n.attrs.length ca, .slice pk n.kids.length ck⟩ :: L0.drop (i + 1)))) ∧ Hid (Chg [G] wr wx))
      case first =>
        go_region_held3 (fun w' => w'.cell? ⟨G, i * 5, none⟩ = some (.string n.name) ∧ w'.frozen? ⟨G, i * 5, none⟩ = false ∧ w'.cell? ⟨G, i * 5 + 1, none⟩ = some (.string n.text) ∧ w'.frozen? ⟨G, i * 5 + 1, none⟩ = false)
          (first | exact keep2p (by assumption) (addr_ne (by omega)) | exact keep2q (by assumption) (addr_ne (by omega)) | exact keep2 (by assumption) b1 | exact keep2 (by assumption) b2 | go_keep)
          (first | (go_at_call 44; refine (HCn.out _).mono ?_; rintro e wa ⟨rfl, b1⟩) | (go_at_call 44; refine (HCt.out _).mono ?_; rintro e wb ⟨rfl, b2⟩))
        all_goals
          go_wp2_with fail
          go_meet
          case rel =>
            first
              | (have bb : Below wr.heap.size wr wb := undrew (chain b1 b2)
                 refine ⟨?_, ((Chg.of_below bb).nil.trans (Chg.setB _ _ _ _)).trans (Chg.setB _ _ _ _)⟩
                 have r1 := owns_kept HH'.out.row (Chg.of_below bb) (fun _ _ q => by cases q)
                 first
                   | exact owns_same (owns_same r1 VB (CV.out 0 _ (by omega) rfl)) VB (CV.out 1 _ (by omega) rfl)
                   | exact owns_same (owns_same r1 VB (CV.out 1 _ (by omega) rfl)) VB (CV.out 0 _ (by omega) rfl))
              | (have bb : Below wr.heap.size wr wa := undrew (chain b2 b1)
                 refine ⟨?_, ((Chg.of_below bb).nil.trans (Chg.setB _ _ _ _)).trans (Chg.setB _ _ _ _)⟩
                 have r1 := owns_kept HH'.out.row (Chg.of_below bb) (fun _ _ q => by cases q)
                 first
                   | exact owns_same (owns_same r1 VB (CV.out 0 _ (by omega) rfl)) VB (CV.out 1 _ (by omega) rfl)
                   | exact owns_same (owns_same r1 VB (CV.out 1 _ (by omega) rfl)) VB (CV.out 0 _ (by omega) rfl))
      case rest =>
        obtain ⟨RC, CC⟩ := hcut
        rename World => wd
        clear c0 c1' c2 c4 f0 f1 HCn HCt
        have c2 := owns_cell RC.out VB (CV.out 2 _ (by omega) rfl)
        have c4 := owns_cell RC.out VB (CV.out 4 _ (by omega) rfl)
        have f2 := owns_free RC.out VB (i * 5 + 2)
        have f4 := owns_free RC.out VB (i * 5 + 4)
        have Gl : G < wd.heap.size := World.block_lt_of_cell? _ _ c2
        have GB : Hid (B ≤ G) := g0
        have BC : Hid (Below B w wd) := BW.out.trans (CC.out.below (by have := BW.out.size; omega) (fun k q => by rw [List.mem_singleton.1 q]; exact g0))
        have RK := hide RW0.2
        have RA := hide RW0.1
        have za := TX.2.2.2.1
        have zk := TX.2.2.2.2
        have HFk := hide (fun W (hb : Below wd.heap.size wd W) => freshI_any (.slice pk n.kids.length ck) n.kids.length (cellsI n.kids) W (RK.out.below (by rw [hB]; exact BC.out.trans (hb.mono (by have := BC.out.size; omega)))).raw (cellsI_one _) (by omega))
        have HFa := hide (fun W (hb : Below wd.heap.size wd W) => freshA_any (.slice pa n.attrs.length ca) n.attrs.length (cellsA n.attrs) W (RA.out.below (by rw [hB]; exact BC.out.trans (hb.mono (by have := BC.out.size; omega)))).raw (cellsA_one _) (by omega))
        have TXa := hide TX.2.2.1
        clear RW0 TX
        go_wp2_with fail
        go_cut [34] (fun _ wx => ∃ qk xk qa xa, Hid (wx.ownsRow B 45 5 (.slice (some ⟨G, 0, none⟩) l.length c1) (D ++ ⟨n, .slice pa n.attrs.length ca, .slice pk n.kids.length ck⟩ :: L0.drop (i + 1)).length (cellsV (D ++ ⟨n, .slice qa n.attrs.length xa, .slice qk n.kids.length xk⟩ :: L0.drop (i + 1)))) ∧ Hid (KidsO B wx (.slice qk n.kids.length xk) n.kids) ∧ Hid (AttrsO B wx (.slice qa n.attrs.length xa) n.attrs) ∧ Hid (∀ k, (Value.slice qk n.kids.length xk).ownBlock = some k → wd.heap.size ≤ k) ∧ Hid (∀ k, (Value.slice qa n.attrs.length xa).ownBlock = some k → wd.heap.size ≤ k) ∧ Hid (∀ k, (Value.slice qa n.attrs.length xa).ownBlock = some k → (Value.slice qk n.kids.length xk).ownBlock ≠ some k) ∧ Hid (Chg [G] wd wx))
        case first =>
          go_region_with (first | (go_at_call 67; refine (HFk.out _ (by first | exact ba | exact bel_drewN (Below.refl _ _) 1)).mono ?_; rintro e wk ⟨qk, xk, rfl, fk⟩; have bk : Below wd.heap.size wd wk := (by first | exact chain ba fk.2.1 | exact undrew fk.2.1); have k2 := cell_below c2 bk; have k4 := cell_below c4 bk; have kf2 := (bk.frozen (p := ⟨G, i * 5 + 2, none⟩) Gl).trans f2; have kf4 := (bk.frozen (p := ⟨G, i * 5 + 4, none⟩) Gl).trans f4) | (go_at_call 68; refine (HFa.out _ (by first | exact bk | exact bel_drewN (Below.refl _ _) 1)).mono ?_; rintro e wa ⟨qa, xa, rfl, fa⟩; have ba : Below wd.heap.size wd wa := (by first | exact chain bk fa.2.1 | exact undrew fa.2.1); have a2 := cell_below c2 ba; have a4 := cell_below c4 ba; have af2 := (ba.frozen (p := ⟨G, i * 5 + 2, none⟩) Gl).trans f2; have af4 := (ba.frozen (p := ⟨G, i * 5 + 4, none⟩) Gl).trans f4))
          all_goals
            go_wp2_with fail
            go_meet
            case rel =>
              refine ⟨qk, xk, qa, xa, ?_⟩
              first
                | (have hs : Chg [G] wa ((wa.setCell ⟨G, i * 5 + 4, none⟩ (Value.slice qk n.kids.length xk)).setCell ⟨G, i * 5 + 2, none⟩ (Value.slice qa n.attrs.length xa)) := (Chg.setB _ _ _ _).trans (Chg.setB _ _ _ _)
                   obtain ⟨t1, t2, t3, t4, t5⟩ := two_kids fk fa (G := G) (B := B) Gl (by have := BC.out.size; show B ≤ wd.heap.size; omega) hs
                   have r1 := owns_kept RC.out (Chg.of_below ba) (fun _ _ q => by cases q)
                   have r2 := row_set (j := 4) (u := Value.slice qk n.kids.length xk) (x' := ⟨n, .slice pa n.attrs.length ca, .slice qk n.kids.length xk⟩) r1 VB (by omega) rfl
                   have r3 := row_set (j := 2) (u := Value.slice qa n.attrs.length xa) (x' := ⟨n, .slice qa n.attrs.length xa, .slice qk n.kids.length xk⟩) r2 VB (by omega) rfl
                   rw [dl] at r3
                   exact ⟨r3, t1, t2, t3, t4, t5, (Chg.of_below ba).nil.trans hs⟩)
                | (have hs : Chg [G] wk ((wk.setCell ⟨G, i * 5 + 4, none⟩ (Value.slice qk n.kids.length xk)).setCell ⟨G, i * 5 + 2, none⟩ (Value.slice qa n.attrs.length xa)) := (Chg.setB _ _ _ _).trans (Chg.setB _ _ _ _)
                   obtain ⟨t1, t2, t3, t4, t5⟩ := two_attrs fa fk (G := G) (B := B) Gl (by have := BC.out.size; show B ≤ wd.heap.size; omega) hs
                   have r1 := owns_kept RC.out (Chg.of_below bk) (fun _ _ q => by cases q)
                   have r2 := row_set (j := 4) (u := Value.slice qk n.kids.length xk) (x' := ⟨n, .slice pa n.attrs.length ca, .slice qk n.kids.length xk⟩) r1 VB (by omega) rfl
                   have r3 := row_set (j := 2) (u := Value.slice qa n.attrs.length xa) (x' := ⟨n, .slice qa n.attrs.length xa, .slice qk n.kids.length xk⟩) r2 VB (by omega) rfl
                   rw [dl] at r3
                   exact ⟨r3, t1, t2, t3, t4, t5, (Chg.of_below bk).nil.trans hs⟩)
        case rest =>
          obtain ⟨qk, xk, qa, xa, RX, KX, AX, SK, SA, SD, CX⟩ := hcut
          clear c2 c4 f2 f4 HFk HFa
          have CV2 : Hid (∀ (x' : NdV) j u, j < 5 → (cellsN x')[j]? = some u → (cellsV (D ++ x' :: L0.drop (i + 1)))[i * 5 + j]? = some u) := fun x' j u hj hu => by
            rw [cellsV_at (L := D ++ x' :: L0.drop (i + 1)) (i := i) (by rw [List.length_append, List.length_cons]; omega) hj]
            rw [List.getElem_append_right (by omega)]
            simp only [dl, Nat.sub_self, List.getElem_cons_zero]
            exact hu
          have c2 := owns_cell RX.out VB (CV2.out _ 2 _ (by omega) rfl)
          go_wp2_with fail
          go_loopw [55] (fun jv wq => ∃ j : Nat, j ≤ n.attrs.length ∧ jv = .int .i64 j ∧ Hid (Chg (Value.slice qa n.attrs.length xa).ownBlock.toList wc wq) ∧ Hid (AttrsO B wq (.slice qa n.attrs.length xa) n.attrs)) (fun jv _ => n.attrs.length - (intOf jv).toNat)
          case atStart => exact ⟨0, Nat.zero_le _, rfl, Chg.refl _ _, AX⟩
          case round =>
            rename World => wq
            obtain ⟨j, hj, rfl, CQ, AQ⟩ := hrel
            by_cases hjj : j < n.attrs.length
            · have j1 : (j : Int) < (n.attrs.length : Int) := by omega
              have j0 : (0 : Int) ≤ (j : Int) := by omega
              obtain ⟨ga, cp, ev, eb, ga0, ga1, _⟩ := owns_at AQ.out (by omega)
              have eq : qa = some ⟨ga, 0, none⟩ := by cases ev; rfl
              subst eq
              have SG := SA.out ga rfl
              have d2 := CQ.out.cell c2 (by intro t; have := opt_mem.1 t; have := Option.some.inj this; have : ga = G := this; omega)
              have VA : (Value.slice (some ⟨ga, 0, none⟩) n.attrs.length xa).ownBlock = some ga := rfl
              have cc := cellsA_at (ax := n.attrs) hjj
              have d0 := owns_cell AQ.out VA cc.1
              have d1 := owns_cell AQ.out VA cc.2
              have e0 := owns_free AQ.out VA (j * 2)
              have e1 := owns_free AQ.out VA (j * 2 + 1)
              have TJ := TXa.out n.attrs[j] (List.getElem_mem _)
              have HCn := hide (fun W => clone_any n.attrs[j].1 W (by have := TJ.1; omega))
              have HCt := hide (fun W => clone_any n.attrs[j].2 W (by have := TJ.2; omega))
              have C0 := hide cc.1
              have C1 := hide cc.2
              clear cc TJ ev eb
              generalize n.attrs[j].1 = y0 at *
              generalize n.attrs[j].2 = y1 at *
              go_wp2_with fail
              go_region_held3 (fun w' => w'.cell? ⟨ga, j * 2, none⟩ = some (.string y0) ∧ w'.frozen? ⟨ga, j * 2, none⟩ = false ∧ w'.cell? ⟨ga, j * 2 + 1, none⟩ = some (.string y1) ∧ w'.frozen? ⟨ga, j * 2 + 1, none⟩ = false)
                  (first | exact keep2p (by assumption) (addr_ne (by omega)) | exact keep2q (by assumption) (addr_ne (by omega)) | exact keep2 (by assumption) b1 | exact keep2 (by assumption) b2 | go_keep)
                  (first | (go_at_call 44; refine (HCn.out _).mono ?_; rintro e wa ⟨rfl, b1⟩) | (go_at_call 44; refine (HCt.out _).mono ?_; rintro e wb ⟨rfl, b2⟩))
              all_goals
                go_wp2_with fail
                go_roundw
                case rel =>
                  refine ⟨j + 1, by omega, by go_num, ?_⟩
                  first
                    | (have bb : Below wq.heap.size wq wb := undrew (chain b1 b2)
                       refine ⟨CQ.out.trans (((Chg.of_below bb).nil.trans (Chg.setB _ _ _ _)).trans (Chg.setB _ _ _ _)), ?_⟩
                       have r1 := owns_kept AQ.out (Chg.of_below bb) (fun _ _ q => by cases q)
                       first
                         | exact owns_same (owns_same r1 VA C0.out) VA C1.out
                         | exact owns_same (owns_same r1 VA C1.out) VA C0.out)
                    | (have bb : Below wq.heap.size wq wa := undrew (chain b2 b1)
                       refine ⟨CQ.out.trans (((Chg.of_below bb).nil.trans (Chg.setB _ _ _ _)).trans (Chg.setB _ _ _ _)), ?_⟩
                       have r1 := owns_kept AQ.out (Chg.of_below bb) (fun _ _ q => by cases q)
                       first
                         | exact owns_same (owns_same r1 VA C0.out) VA C1.out
                         | exact owns_same (owns_same r1 VA C1.out) VA C0.out)
                case measure => simp [intOf]; omega
            · obtain rfl : j = n.attrs.length := by omega
              have X1 : Chg (G :: (Value.slice qa n.attrs.length xa).ownBlock.toList) wr wc := (CC.out.trans CX.out).mono (fun k q _ => by rw [List.mem_singleton.1 q]; exact List.mem_cons_self ..)
              have X2 : Chg (G :: (Value.slice qa n.attrs.length xa).ownBlock.toList) wc wq := CQ.out.mono (fun k q _ => List.mem_cons_of_mem _ q)
              have CW : Hid (Chg [G] wr wq) := (X1.trans X2).mono (fun k q r => by
                rcases List.mem_cons.1 q with t | t
                · rw [t]; exact List.mem_singleton.2 rfl
                · have := SA.out k (opt_mem.1 t)
                  have := CC.out.size
                  omega)
              have RQ := hide (owns_kept RX.out CQ.out (fun k hk q => by
                have e1 : G = k := Option.some.inj hk
                have := SA.out k (opt_mem.1 q)
                omega))
              have KQ : Hid (KidsO B wq (.slice qk n.kids.length xk) n.kids) := owns_kept KX.out CQ.out (fun k hk q => SD.out k (opt_mem.1 q) hk)
              have S2 : Hid (wr.heap.size ≤ wd.heap.size) := CC.out.size
              clear X1 X2 hjj c2
              go_wp2_with fail
              go_roundw
              case rel =>
                refine ⟨i + 1, D ++ [⟨n, .slice qa n.attrs.length xa, .slice qk n.kids.length xk⟩], by omega, by go_num, ⟨by rw [List.length_append, dl]; rfl, ?_⟩, HH'.out.next CW.out RQ.out AQ.out KQ.out ?_ ?_, BW.out.trans (CW.out.below (by have := BW.out.size; omega) (fun k q => by rw [List.mem_singleton.1 q]; exact g0))⟩
                · have e := HD.out.2
                  unfold ndsOf at e ⊢
                  rw [List.map_append, e, List.take_succ_eq_append_getElem h]
                  congr 1
                  show [n] = [l[i]]
                  rw [← XN.out]
                · show ((Value.slice qa n.attrs.length xa).ownBlock.toList ++ (Value.slice qk n.kids.length xk).ownBlock.toList).Nodup
                  rw [List.nodup_append]
                  refine ⟨by cases (Value.slice qa n.attrs.length xa).ownBlock <;> simp, by cases (Value.slice qk n.kids.length xk).ownBlock <;> simp, fun a ha b hb e => ?_⟩
                  subst e
                  exact SD.out a (opt_mem.1 ha) (opt_mem.1 hb)
                · intro k hk
                  have := S2.out
                  have hk : k ∈ (Value.slice qa n.attrs.length xa).ownBlock.toList ++ (Value.slice qk n.kids.length xk).ownBlock.toList := hk
                  rcases List.mem_append.1 hk with q | q
                  · have := SA.out k (opt_mem.1 q); omega
                  · have := SK.out k (opt_mem.1 q); omega
              case measure => simp [intOf]; omega
    · obtain rfl : i = l.length := by omega
      have E : Hid (OwnD B wr (.slice (some ⟨G, 0, none⟩) l.length c1) D) := by
        have := HH.out
        rw [show L0.drop l.length = [] by rw [← LL, List.drop_length]] at this
        exact this.done
      have E2 : Hid (ndsOf D = l) := by have := HD.out.2; rw [List.take_length] at this; exact this
      clear h HH HD
      go_wp2_with fail
      go_ret
      exact ⟨_, D, rfl, E.out, E2.out, BW.out⟩

end Go.Proofs.Ytkloahpkjbohoaa
