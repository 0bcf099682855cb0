/- The document's oneRow of layer 9, walked: where a row ends, over all places where it may begin; what lay in the world lies there still. Condition: the atoms from the place on are walked already (OnceAt). -/
import Derived.Test.YtncljgpcloanfaaDoorQatRF
namespace Go.Proofs.YtncljgpcloanfaaDoor
open Go.RowKit

theorem atom_eight {k : Nat} {l : List Nat} {z : Pat × List Nat} (hk : k ≤ 8) (h : atomD k l = some z) : atomD 8 l = some z := by
  have := (level_up k (8 - k)).1 l z h
  rw [show k + (8 - k) = 8 by omega] at this
  exact this
theorem row_eight {k : Nat} {l : List Nat} {z : Pat × List Nat} (hk : k ≤ 8) (h : rowD k l = some z) : rowD 8 l = some z := by
  have := row_up k (8 - k) l z h
  rw [show k + (8 - k) = 8 by omega] at this
  exact this
/-- The second loop's exit: no more is found, or it was done as often as it may be. -/
def Grown (f : List Bool → List Bool) (lo : Nat) (hi : Option Nat) (_N : Nat) (x : List Bool) (d : Nat) (z : List Bool) : Prop := z = growB f d x ∧ d ≤ trues z ∧ ∀ h, hi = some h → lo + d ≤ h
theorem grown_zero (f : List Bool → List Bool) (lo : Nat) (hi : Option Nat) (N : Nat) (x : List Bool) (h : ∀ h, hi = some h → lo ≤ h) : Grown f lo hi N x 0 x := ⟨rfl, Nat.zero_le _, fun q e => by have := h q e; omega⟩
theorem grown_full {f : List Bool → List Bool} {lo : Nat} {hi : Option Nat} {N : Nat} {x : List Bool} {d : Nat} {z : List Bool} (h : Grown f lo hi N x d z) (e : hi = some (lo + d)) : z = growB f (moreN lo hi N) x := by
  rw [h.1, e]
  show _ = growB f (lo + d - lo) x
  rw [show lo + d - lo = d by omega]
theorem grown_stop {f : List Bool → List Bool} {lo : Nat} {hi : Option Nat} {N : Nat} {x : List Bool} {d : Nat} {z : List Bool} (h : Grown f lo hi N x d z) (hz : z.length = N) (e : orB z (f z) = z) : z = growB f (moreN lo hi N) x := by
  have h1 := h.1
  rw [h1] at e
  have hd : d ≤ moreN lo hi N := by
    cases hi with
    | none =>
      have := trues_le z
      have := h.2.1
      show d ≤ N
      omega
    | some q =>
      have := h.2.2 q rfl
      show d ≤ q - lo
      omega
  rw [grow_fix e hd]; exact h1
theorem grown_next {f : List Bool → List Bool} {lo : Nat} {hi : Option Nat} {N : Nat} {x : List Bool} {d : Nat} {z : List Bool} (h : Grown f lo hi N x d z) (hf : (f z).length = z.length) (e : ¬ orB z (f z) = z) (hh : ¬ hi = some (lo + d)) : Grown f lo hi N x (d + 1) (orB z (f z)) := by
  refine ⟨by rw [grow_succ, ← h.1], ?_, fun q eq => ?_⟩
  · have := (or_trues z (f z) hf.symm).2 e
    have := h.2.1
    omega
  · have h1 := h.2.2 q eq
    have : ¬ q = lo + d := fun e2 => hh (by rw [eq, e2])
    omega
theorem grown_le {f : List Bool → List Bool} {lo : Nat} {hi : Option Nat} {N : Nat} {x : List Bool} {d : Nat} {z : List Bool} (h : Grown f lo hi N x d z) (hz : z.length = N) : d ≤ N := by
  have := trues_le z
  have := h.2.1
  omega
theorem ends_len {ls : List Nat} {x : Pat} {fr : List Bool} (h : fr.length = ls.length + 1) : (ends ls x fr).length = ls.length + 1 := (ends_steps ls x).len fr h
theorem iter_len {ls : List Nat} {x : Pat} {fr : List Bool} (j : Nat) (h : fr.length = ls.length + 1) : (iterB (ends ls x) j fr).length = ls.length + 1 := ((ends_steps ls x).iter j).len fr h
theorem hi_ne {lo d : Nat} {hi : Option Nat} (h : ¬ hi = some (lo + d)) : ((((lo : Int) + (d : Int))) != hiV hi) = true := by
  rw [bne_iff_ne]
  intro e
  cases hi with
  | none => have : ((lo : Int) + (d : Int)) = -1 := e; omega
  | some q =>
    have e : ((lo : Int) + (d : Int)) = (q : Int) := e
    exact h (by rw [show q = lo + d by omega])
theorem hi_eq {lo d : Nat} {hi : Option Nat} (h : hi = some (lo + d)) : ((((lo : Int) + (d : Int))) != hiV hi) = false := by
  subst h
  show (((lo : Int) + (d : Int)) != ((lo + d : Nat) : Int)) = false
  rw [bne_eq_false_iff_eq]; omega
theorem here_next {g : Nat} {l : List Nat} {sv : Value} {ls : List Nat} {w w' : World} {gf : Nat} {fr : List Bool} (h : Here g l sv ls w gf fr) (hb : Below w.heap.size w w') {g' : Nat} {z : List Bool} (hz : Bools w' g' z) (hn : z.length = ls.length + 1) : Here g l sv ls w' g' z := ⟨h.p.below hb, h.s.below hb, hz, hn, h.le⟩

/-- How often, as it lies in a block of its own. -/
structure OftAt (w : World) (b : Nat) (m lo hi : Int) : Prop where
  c0 : w.cell? ⟨b, 0, none⟩ = some (.int .i64 m)
  c1 : w.cell? ⟨b, 1, none⟩ = some (.int .i64 lo)
  c2 : w.cell? ⟨b, 2, none⟩ = some (.int .i64 hi)
theorem OftAt.below {w w' : World} {b : Nat} {m lo hi : Int} (h : OftAt w b m lo hi) (hb : Below w.heap.size w w') : OftAt w' b m lo hi :=
  ⟨(hb.cell (World.block_lt_of_cell? _ _ h.c0)).trans h.c0, (hb.cell (World.block_lt_of_cell? _ _ h.c1)).trans h.c1, (hb.cell (World.block_lt_of_cell? _ _ h.c2)).trans h.c2⟩
theorem oft_new (w : World) (T : TypeId) (m lo hi : Int) : OftAt (w.alloc (.cells #[.int .i64 m, .int .i64 lo, .int .i64 hi] T)) w.heap.size m lo hi :=
  ⟨by rw [World.cell?_alloc_new]; rfl, by rw [World.cell?_alloc_new]; rfl, by rw [World.cell?_alloc_new]; rfl⟩

set_option maxHeartbeats 8000000 in
set_option maxRecDepth 100000 in
theorem row_of2 (g cap : Nat) (l : List Nat) (sv : Value) (ls : List Nat) (a0 : Nat) (hO : ∀ b, a0 ≤ b → b < l.length → OnceAt g cap l sv ls b) : RowAt g cap l sv ls a0 := by
  intro k y r fr gf cf w hk hy ha0 hH
  have hlen := hH.p.len
  have HA := hide (fun a w' hI (h : a < l.length) => (level_any g cap l 8 0 rfl).1 a w' hI h)
  have HF := hide (fun f k' w' hI h1 h2 => refOften_any g cap l f k' w' hI h1 h2)
  have HO := hide hO
  have HH := hide hH
  have HY := hide hy
  have HK := hide hk
  generalize hR : ends ls y fr = R
  have HR := hide hR
  have hle := hH.le
  clear hR hO hy hk
  unfold rowV at HA HF ⊢
  unfold Tells
  unfold bolV
  clear hH
  go_enter Tryd.func31, Tryd.ntmps31
  go_wp2_with fail
  go_loopw [1, 3] (fun av fv wr => ∃ (a : Nat) (y' : Pat) (fr' : List Bool) (gf' cf' : Nat), a0 ≤ a ∧ a ≤ l.length ∧ av = .int .i64 a ∧ fv = .slice (some ⟨gf', 0, none⟩) fr'.length cf' ∧ Hid (rowD k (l.drop a) = some (y', r)) ∧ Hid (ends ls y' fr' = R) ∧ Hid (Here g l sv ls wr gf' fr') ∧ Below w.heap.size w wr) (fun av _ _ => l.length - (intOf av).toNat)
  case atStart => exact ⟨a0, y, fr, gf, cf, Nat.le_refl _, ha0, rfl, rfl, HY.out, HR.out, HH.out, Below.refl _ _⟩
  case round =>
    obtain ⟨a, y', fr', gf', cf', ha1, ha, rfl, rfl, hy', hE, hH', hb⟩ := hrel
    rename World => wr
    clear HR HY HH
    by_cases h : a < l.length
    · have i1 : (a : Int) < (l.length : Int) := by omega
      have ca := hH'.out.p.cells a h
      have sa := hH'.out.p.small l[a] (List.getElem_mem _)
      by_cases e124 : l[a] = 124
      · have d124 : ((l[a] : Int) != 124) = false := by rw [e124]; rfl
        have E : Hid (fr' = R) := by
          have q := hy'.out
          rw [row_end k ha (.inr ⟨h, by rw [e124]; rfl⟩)] at q
          cases q
          exact hE.out
        have D := hide (⟨gf', cf', hH'.out.f⟩ : ∃ g' c', Bools wr g' fr')
        clear hE hy' HA HF HO e124 D
        generalize l[a] = xa at *
        go_wp2_with fail
        go_ret
        exact ⟨gf', cf', by rw [← E.out]; rfl, by rw [← E.out]; exact hH'.out.f, hb⟩
      · have d124 : ((l[a] : Int) != 124) = true := by rw [bne_iff_ne]; omega
        by_cases e41 : l[a] = 41
        · have d41 : ((l[a] : Int) != 41) = false := by rw [e41]; rfl
          have E : Hid (fr' = R) := by
            have q := hy'.out
            rw [row_end k ha (.inr ⟨h, by rw [e41]; rfl⟩)] at q
            cases q
            exact hE.out
          clear hE hy' HA HF HO e124 e41
          generalize l[a] = xa at *
          go_wp2_with fail
          go_ret
          exact ⟨gf', cf', by rw [← E.out]; rfl, by rw [← E.out]; exact hH'.out.f, hb⟩
        · have d41 : ((l[a] : Int) != 41) = true := by rw [bne_iff_ne]; omega
          obtain ⟨x, n, lo, hi, m, y2, n0, n2, hat, m1, m2, ho, hr2, ey⟩ := row_open h (stop_not e124 e41) hy'.out
          have E : Hid (ends ls y2 (growB (ends ls x) (moreN lo hi fr'.length) (iterB (ends ls x) lo fr')) = R) := by
            have q := hE.out
            rw [ey] at q
            exact q
          have HAa := hide (HA.out a wr hH'.out.p h)
          rw [atom_eight HK.out hat, endP_at x n2] at HAa
          have HOn := hide (fun w' (b : Below wr.heap.size wr w') => HF.out a n w' (hH'.out.p.below b) n2 h)
          rw [ho, oft_at lo hi m2] at HOn
          have ON := hide (fun fr gf cf w' hH => HO.out a ha1 h k x n fr gf cf w' HK.out hat n2 h hH)
          have ol := hide (often_lo ho)
          have lo99 := (often_lo ho).1
          have OK := hide (fun q (e : hi = some q) => by rw [e] at ho; exact often_ok ho)
          have R2 := hide hr2
          have hfl := hide hH'.out.n
          clear hy' hE hat ho hr2 ey HA HF HO e124 e41
          unfold rowV at ON
          unfold Tells at ON
          unfold bolV at ON
          generalize l[a] = xa at *
          have hhi : hiV hi ≤ 99 := by
            cases hi with
            | none => show (-1 : Int) ≤ 99; omega
            | some q => have := ol.out.2 q rfl; show (q : Int) ≤ 99; omega
          have hhi2 : -1 ≤ hiV hi := by
            cases hi with
            | none => exact Int.le_refl _
            | some q => show (-1 : Int) ≤ (q : Int); omega
          go_wp2_with fail
          refine HAa.out.mono ?_
          rintro e w1 ⟨rfl, b1⟩
          go_wp2_with fail
          refine (HOn.out _ b1).mono ?_
          rintro e w2 ⟨rfl, b2⟩
          clear HAa HOn ca
          have b3 := chain b1 b2
          have HB3 := hide (fun (o : Obj) => hH'.out.below (chain_alloc b3 (o := o)))
          have HC3 := hide (fun (o : Obj) => chain_alloc b3 (o := o))
          have ON3 := hide (fun (T : TypeId) => oft_new w2 T (m : Int) (lo : Int) (hiV hi))
          clear b1 b2 b3 hH'
          go_wp2_with fail
          generalize w2.heap.size = B at *
          go_loopw [11, 3] (fun kv fv wq => ∃ (j : Nat) (f1 : List Bool) (g1 c1 : Nat), j ≤ lo ∧ kv = .int .i64 j ∧ fv = .slice (some ⟨g1, 0, none⟩) f1.length c1 ∧ Hid (f1 = iterB (ends ls x) j fr') ∧ Hid (Here g l sv ls wq g1 f1) ∧ Hid (OftAt wq B (m : Int) (lo : Int) (hiV hi)) ∧ Below wr.heap.size wr wq) (fun kv _ _ => lo - (intOf kv).toNat)
          case atStart => exact ⟨0, fr', gf', cf', Nat.zero_le _, rfl, rfl, rfl, HB3.out _, ON3.out _, HC3.out _⟩
          case round =>
            obtain ⟨j, f1, g1, c1, hj, rfl, rfl, hf1, hH1, hO1, hb1⟩ := hrel
            rename World => wq
            clear HB3 HC3 ON3
            by_cases hjl : j < lo
            · have j1 : (j : Int) < (lo : Int) := by omega
              have o1 := hO1.out.c1
              have H1 := hide (ON.out f1 g1 c1 wq hH1.out)
              have NX : Hid (ends ls x f1 = iterB (ends ls x) (j + 1) fr') := by
                show _ = _
                rw [iterB_succ, ← hf1.out]
              have L1 := hide (ends_len (x := x) hH1.out.n)
              have HN := hide (fun w4 g4 (b : Below wq.heap.size wq w4) hz => here_next hH1.out b (g' := g4) (z := ends ls x f1) hz L1.out)
              have ON4 := hide (fun w4 (b : Below wq.heap.size wq w4) => hO1.out.below b)
              clear hf1 hH1 hO1 L1 ON E R2 OK ol hhi hhi2 hfl
              generalize ends ls x f1 = z at *
              go_wp2_with fail
              refine H1.out.mono ?_
              rintro e w4 ⟨g4, c4, rfl, hB4, b4⟩
              go_wp2_with fail
              go_roundw
              case rel => exact ⟨j + 1, z, g4, c4, by omega, by go_num, rfl, NX.out, HN.out _ _ b4 hB4, ON4.out _ b4, chain hb1 b4⟩
              case measure => simp [intOf]; omega
            · obtain rfl : j = lo := by omega
              have j1 : ¬ (j : Int) < (j : Int) := by omega
              have o1 := hO1.out.c1
              have G0 := hide (grown_zero (ends ls x) j hi fr'.length f1 OK.out)
              have F1 := hide hH1.out.n
              have E1 : Hid (ends ls y2 (growB (ends ls x) (moreN j hi fr'.length) f1) = R) := by
                show _ = _
                rw [hf1.out]; exact E.out
              clear E hf1 OK ol
              go_wp2_with fail
              go_loopw [12, 3] (fun kv fv wz => ∃ (d : Nat) (f2 : List Bool) (g2 c2 : Nat), kv = .int .i64 ((j : Int) + (d : Int)) ∧ fv = .slice (some ⟨g2, 0, none⟩) f2.length c2 ∧ Hid (Grown (ends ls x) j hi fr'.length f1 d f2) ∧ Hid (Here g l sv ls wz g2 f2) ∧ Hid (OftAt wz B (m : Int) (j : Int) (hiV hi)) ∧ Below wr.heap.size wr wz) (fun kv _ _ => ls.length + 2 + j - (intOf kv).toNat)
              case atStart => exact ⟨0, f1, g1, c1, by simp, rfl, G0.out, hH1.out, hO1.out, hb1⟩
              case round =>
                obtain ⟨d, f2, g2, c2, rfl, rfl, hG, hH2, hO2, hb2⟩ := hrel
                rename World => wz
                clear G0 hH1 hO1 o1 hb1
                have hd : d ≤ 8193 := by
                  have := grown_le hG.out (by rw [hH2.out.n, hfl.out])
                  have := hfl.out
                  omega
                have hd2 : Hid (d ≤ ls.length + 1) := by
                  have := grown_le hG.out (by rw [hH2.out.n, hfl.out])
                  rw [hfl.out] at this
                  exact this
                have o0 := hO2.out.c0
                have o2 := hO2.out.c2
                by_cases hh : hi = some (j + d)
                · have q := hi_eq hh
                  have E2 : Hid (ends ls y2 f2 = R) := by
                    show _ = _
                    rw [grown_full hG.out hh]; exact E1.out
                  clear hG hO2 ON E1 hh F1
                  generalize hiV hi = hv at *
                  go_wp2_with fail
                  go_roundw
                  case rel => exact ⟨m, y2, f2, g2, c2, by omega, m2, rfl, rfl, R2.out, E2.out, hH2.out, chain hb hb2⟩
                  case measure => simp [intOf]; omega
                · have q := hi_ne hh
                  have H1 := hide (ON.out f2 g2 c2 wz hH2.out)
                  have L1 := hide (ends_len (x := x) hH2.out.n)
                  have LL : Hid (f2.length = (ends ls x f2).length ∧ f2.length ≤ 65536 ∧ (orB f2 (ends ls x f2)).length = f2.length) := by
                    have e1 : f2.length = (ends ls x f2).length := by rw [hH2.out.n, L1.out]
                    exact ⟨e1, by rw [hH2.out.n]; omega, orB_len e1⟩
                  have ST := hide (fun e => grown_stop hG.out (by rw [hH2.out.n, hfl.out]) e)
                  have NXG := hide (fun e => grown_next hG.out (by rw [hH2.out.n, L1.out]) e hh)
                  have FB := hide (fun wp (b : Below wz.heap.size wz wp) => hH2.out.f.below b)
                  have HN := hide (fun wp gp (b : Below wz.heap.size wz wp) hz => here_next hH2.out b (g' := gp) (z := orB f2 (ends ls x f2)) hz (by rw [LL.out.2.2]; exact hH2.out.n))
                  have HB := hide (fun wp (b : Below wz.heap.size wz wp) => hH2.out.below b)
                  have OB := hide (fun wp (b : Below wz.heap.size wz wp) => hO2.out.below b)
                  have HJ := hide (fun g4 c4 w4 hA hB => refJoin_any g2 c2 g4 c4 f2 (ends ls x f2) w4 hA hB LL.out.1 LL.out.2.1)
                  have HS := hide (fun ga ca w' hA hB => refSame_any ga ca g2 c2 (orB f2 (ends ls x f2)) f2 w' hA hB LL.out.2.2 (by rw [LL.out.2.2]; exact LL.out.2.1))
                  unfold bolV at HJ HS
                  clear hG hO2 ON hh F1 L1 LL
                  generalize hz2 : orB f2 (ends ls x f2) = z2 at *
                  clear hz2
                  generalize ends ls x f2 = z at *
                  generalize hiV hi = hv at *
                  by_cases hs : z2 = f2
                  · have E2 : Hid (ends ls y2 f2 = R) := by
                      have := ST.out hs
                      show _ = _
                      rw [this]; exact E1.out
                    rw [decide_eq_true hs] at HS
                    clear hs ST NXG E1 HN
                    go_wp2_with fail
                    refine H1.out.mono ?_
                    rintro e w4 ⟨g4, c4, rfl, hB4, b4⟩
                    go_wp2_with fail
                    refine (HJ.out g4 c4 w4 (FB.out _ b4) hB4).mono ?_
                    rintro e w5 ⟨g5, rfl, _, hB5, b5⟩
                    have b6 := chain b4 b5
                    go_wp2_with fail
                    refine (HS.out g5 z2.length w5 hB5 (FB.out _ b6)).mono ?_
                    rintro e w6 ⟨rfl, b7⟩
                    have b8 := chain b6 b7
                    have o3 := (OB.out _ b8).c0
                    have H8 := hide (HB.out _ b8)
                    have b9 := chain hb2 b8
                    clear b4 b5 b6 b7 b8 hB4 hB5 H1 HJ HS o0 o2 q OB HB FB
                    go_wp2_with fail
                    go_roundw
                    case rel => exact ⟨m, y2, f2, g2, c2, by omega, m2, rfl, rfl, R2.out, E2.out, H8.out, chain hb b9⟩
                    case measure => simp [intOf]; omega
                  · have NX := hide (NXG.out hs)
                    rw [decide_eq_false hs] at HS
                    clear hs ST NXG E1
                    go_wp2_with fail
                    refine H1.out.mono ?_
                    rintro e w4 ⟨g4, c4, rfl, hB4, b4⟩
                    go_wp2_with fail
                    refine (HJ.out g4 c4 w4 (FB.out _ b4) hB4).mono ?_
                    rintro e w5 ⟨g5, rfl, _, hB5, b5⟩
                    have b6 := chain b4 b5
                    go_wp2_with fail
                    refine (HS.out g5 z2.length w5 hB5 (FB.out _ b6)).mono ?_
                    rintro e w6 ⟨rfl, b7⟩
                    have b8 := chain b6 b7
                    have O8 := hide (OB.out _ b8)
                    have H8 := hide (HN.out _ _ b8 (hB5.below b7))
                    have b9 := chain hb2 b8
                    clear b4 b5 b6 b7 b8 hB4 hB5 H1 HJ HS o0 o2 q OB HB FB
                    go_wp2_with fail
                    go_roundw
                    case rel => exact ⟨d + 1, z2, g5, z2.length, by go_num, rfl, NX.out, H8.out, O8.out, b9⟩
                    case measure => have := hd2.out; simp [intOf]; omega
    · have i1 : ¬ (a : Int) < (l.length : Int) := by omega
      have E : Hid (fr' = R) := by
        have q := hy'.out
        rw [row_end k ha (.inl h)] at q
        cases q
        exact hE.out
      clear hE hy' HA HF HO h
      go_wp2_with fail
      go_ret
      first | exact ⟨gf', cf', by rw [← E.out]; rfl, by rw [← E.out]; exact hH'.out.f, hb⟩ | exact ⟨gf', ⟨cf', by rw [← E.out]; rfl⟩, by rw [← E.out]; exact hH'.out.f, hb⟩

end Go.Proofs.YtncljgpcloanfaaDoor
