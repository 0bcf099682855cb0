/- The program's 'fits' and 'Fits'. Condition: the two tables of unicode/utf8 hold what the program's text lays. -/
import Derived.Test.YtncljgpcloanfaaDoorQatWalk
import Derived.Test.YtncljgpcloanfaaDoorQatRJ
import Derived.Deep.DeepCutAuto
import Derived.Lib.OthersKept
namespace Go.Proofs.YtncljgpcloanfaaDoor
open Go.RowKit

theorem make_ints (n : Nat) (hn : n ≤ 1048576) (w : World) : (Instr.makeSlice 32 (.int .i64 (n : Int)) (.int .i64 (n : Int))).run Tryd.prog w = .ok (.slice (some ⟨w.heap.size, 0, none⟩) n n) (w.alloc (.cells (List.replicate n (Value.int .i64 0)).toArray 3)) := by
  obtain ⟨i, hi, hz0, hz1, hz2⟩ := info_parts rt_int.info
  have := run_make (P := Tryd.prog) w 32 3 i (.int .i64 0) Tryd.underlying32 hi hz0 .i64 .i64 (n : Int) (n : Int) (by omega) (by omega) (by rw [hz2]; omega) (by omega)
  rw [this, hz1, Int.toNat_natCast, Nat.mul_one]
  have e : madeCells (Value.int .i64 0).cells n = (List.replicate n (Value.int .i64 0)).toArray := by
    apply Array.ext'
    exact toList_madeCells_one (.int .i64 0) n
  rw [e]
theorem start_wk {w wx : World} {Wb Nb n : Nat} {sv : Value} {hp : Hp} (h1 : wx.heap[Wb]? = some (.cells #[sv, .slice none 0 0, .slice none 0 0, .slice (some ⟨Nb, 0, none⟩) n n, .int .i64 0] 63 (0, 0))) (h2 : wx.heap[Nb]? = some (.cells (Array.replicate n (.int .i64 0)) 3 (0, 0))) (ne : Nb ≠ Wb) (hb : Below w.heap.size w wx) (hW : w.heap.size ≤ Wb) (hN : w.heap.size ≤ Nb) (hin : hp.In w) (hn : n ≤ 900000) :
    ∃ Wb' nv sn, Value.pointer (some ⟨Wb, 0, none⟩) = .pointer (some ⟨Wb', 0, none⟩) ∧ Wk wx Wb' sv (.slice none 0 0) (.slice none 0 0) nv hp n [] [] sn 0 ∧ sn.length = n ∧ (∀ x ∈ sn, x ≤ 0) ∧ w.heap.size ≤ Wb' ∧ (∀ j, nv.ownBlock = some j → w.heap.size ≤ j) ∧ Below w.heap.size w wx := by
  refine ⟨Wb, .slice (some ⟨Nb, 0, none⟩) n n, List.replicate n 0, rfl, ⟨h1, World.ownsRow_nil _ _ _ _, World.ownsRow_nil _ _ _ _, ⟨by simp, .inr ⟨Nb, n, _, rfl, Nat.zero_le _, h2, Nat.le_refl _, by unfold maxLen; omega, by simp, ?_⟩⟩, (fun e => by cases e), (fun e => by cases e), (fun e => by cases e; exact ne rfl), (fun j e => by cases e), (fun j e => by cases e), (fun j e => by cases e), hin.below hb, ?_, (fun j e => by cases e)⟩, by simp, ?_, hW, ?_, hb⟩
  · simp [cellI]
  · intro k o e hk
    have := hin.lt e
    rcases hk with rfl | hk | hk
    · omega
    · cases hk
    · cases hk
      have : Nb < w.heap.size := hin.lt e
      omega
  · intro x hx
    have := List.eq_of_mem_replicate hx
    omega
  · intro j e; cases e; exact hN

/-- Another block is changed. -/
theorem Wk.far {w w' : World} {Wb I : Nat} {sv lv bv nv : Value} {hp : Hp} {n : Nat} {L B sn : List Nat} {r : Nat} (h : Wk w Wb sv lv bv nv hp n L B sn r) (g : w.grownBy w' (some I)) (hq : ¬ QO Wb lv bv nv I) (hI : hp I = none) : Wk w' Wb sv lv bv nv hp n L B sn r := by
  have n1 : I ≠ Wb := fun e => hq (.inl (.inl e))
  refine ⟨grown_heap g h.lies (fun e => by cases e; exact n1 rfl), kept_of h.live g (fun j e e2 => by cases e; exact hq (.inl (.inr (.inl e2)))), kept_of h.beh g (fun j e e2 => by cases e; exact hq (.inr e2)), kept_of h.seen g (fun j e e2 => by cases e; exact hq (.inl (.inr (.inr e2)))), h.lW, h.bW, h.nW, h.lb, h.ln, h.bn, h.hin.grown g (fun k e => by cases e; exact hI), h.ap, h.apb⟩
theorem iter_grown (w : World) (k : Nat) (s : ByteArray) (pos : Nat) : w.grownBy (w.iterAt k s pos) (some k) := ⟨rfl, rfl, rfl, by rw [Lib.iterAt_size]; exact Nat.le_refl _, fun j _ hn => Lib.iterAt_other w k j s pos (fun e => hn (by rw [e]))⟩
theorem go_below {P P' : Nat → Prop} {w w1 w2 : World} (h : Below w.heap.size w w1) (g : MGo P P' w1 w2) (hP : ∀ k, P k → w.heap.size ≤ k) : Below w.heap.size w w2 ∧ ∀ k, P' k → w.heap.size ≤ k := by
  refine ⟨h.trans ⟨g.os, g.tape, g.output, g.size, fun k hk => g.keep k (Nat.lt_of_lt_of_le hk h.size) (fun e => by have := hP k e; omega)⟩, fun k hk => ?_⟩
  rcases g.foot k hk with e | e
  · exact hP k e
  · exact Nat.le_trans h.size e
/-- A text's walk so far. -/
structure FitU (w wr : World) (Mb Wb I : Nat) (S : List St) (f : Nat) (hp : Hp) (sv nv : Value) (s : ByteArray) (lv bv : Value) (L B sn : List Nat) (r pos idx : Nat) : Prop where
  wk : Wk wr Wb sv lv bv nv hp S.length L B sn r
  ok : SeenOk S.length r L sn
  rl : r ≤ idx + 1
  ip : idx ≤ pos
  pl : pos ≤ s.size
  iter : wr.heap[I]? = some (.stringIter s pos)
  mem : ∀ q, q ∈ L ↔ Path S (signsL s.data.toList) f q idx
  rest : (signsL s.data.toList).drop idx = signsL (s.data.toList.drop pos)
  il : idx ≤ (signsL s.data.toList).length
  far : ¬ QO Wb lv bv nv I
  hI : hp I = none
  low : ∀ k, QO Wb lv bv nv k → w.heap.size ≤ k
  Il : w.heap.size ≤ I
  below : Below w.heap.size w wr
def posOf (w : World) (I : Nat) : Nat := match w.heap[I]? with
  | some (.stringIter _ p) => p
  | _ => 0

set_option maxHeartbeats 8000000 in
theorem mfits_any (Mb : Nat) (S : List St) (f : Nat) (hp : Hp) (sv : Value) (ys : List Value) (s : ByteArray) (w : World) (ha : Auto w Mb S f hp sv ys) (hs : s.size ≤ 4000) :
    Calls Tryd.prog 20 #[.pointer (some ⟨Mb, 0, none⟩), .string s] w fun e w' => (∃ b : Bool, e = .returned (.bool b) ∧ (b = true ↔ Path S (signsL s.data.toList) f 0 (signsL s.data.toList).length)) ∧ Below w.heap.size w w' := by
  have few := ha.few
  have fl := ha.first
  obtain ⟨c0, c1, cf⟩ := cells2_at (ha.hin _ _ ha.lies)
  obtain ⟨gst, cst, est, _, _, _, hcell⟩ := ha.row.form (by omega) ha.hin
  subst est
  have HA := hide ha
  have ml := ha.hin.lt ha.lies
  have MK := fun w => make_ints S.length (by omega) w
  clear ha hcell
  go_enter Tryd.func20, Tryd.ntmps20
  go_wp2_with fail
  go_cut [5] (fun t wx => ∃ Wb nv sn, t = .pointer (some ⟨Wb, 0, none⟩) ∧ Wk wx Wb (.slice (some ⟨gst, 0, none⟩) S.length cst) (.slice none 0 0) (.slice none 0 0) nv hp S.length [] [] sn 0 ∧ sn.length = S.length ∧ (∀ x ∈ sn, x ≤ 0) ∧ w.heap.size ≤ Wb ∧ (∀ j, nv.ownBlock = some j → w.heap.size ≤ j) ∧ Below w.heap.size w wx)
  case first =>
    go_region
    all_goals
      go_wp2_with fail
      go_meet
      case rel =>
        have sz := HA.out.hin
        first
          | refine start_wk (Wb := w.heap.size + 1) (Nb := w.heap.size) ?_ ?_ (by omega) ?_ (by omega) (by omega) sz few
            · have e := heap_alloc_new (w.alloc (.cells (Array.replicate S.length (.int .i64 0)) 3)) (.cells #[.slice (some ⟨gst, 0, none⟩) S.length cst, .slice none 0 0, .slice none 0 0, .slice (some ⟨w.heap.size, 0, none⟩) S.length S.length, .int .i64 0] 63)
              rw [show (w.alloc (.cells (Array.replicate S.length (.int .i64 0)) 3)).heap.size = w.heap.size + 1 by simp] at e
              exact e
            · exact grown_heap (World.grownBy_alloc (w.alloc (.cells (Array.replicate S.length (.int .i64 0)) 3)) _ none) (heap_alloc_new w _) (by simp)
            · exact (((Below.refl _ _).alloc (Nat.le_refl _) _).alloc (by simp) _).drew
          | refine start_wk (Wb := w.heap.size) (Nb := w.heap.size + 1) ?_ ?_ (by omega) ?_ (by omega) (by omega) sz few
            · exact grown_heap (World.grownBy_alloc (w.alloc _) _ none) (heap_alloc_new w _) (by simp)
            · have e := heap_alloc_new (w.alloc (.cells #[.slice (some ⟨gst, 0, none⟩) S.length cst, .slice none 0 0, .slice none 0 0, .slice (some ⟨w.heap.size + 1, 0, none⟩) S.length S.length, .int .i64 0] 63)) (.cells (Array.replicate S.length (.int .i64 0)) 3)
              rw [show (w.alloc (.cells #[.slice (some ⟨gst, 0, none⟩) S.length cst, .slice none 0 0, .slice none 0 0, .slice (some ⟨w.heap.size + 1, 0, none⟩) S.length S.length, .int .i64 0] 63)).heap.size = w.heap.size + 1 by simp] at e
              exact e
            · exact (((Below.refl _ _).alloc (Nat.le_refl _) _).alloc (by simp) _).drew
  case rest =>
    obtain ⟨Wb, nv, sn, rfl, hk, sl, sz, wW, wN, wB⟩ := hcut
    have hlies := hk.hin _ _ HA.out.lies
    clear c0 c1 cf MK
    obtain ⟨c0, c1, cf⟩ := cells2_at hlies
    have wl : Wb < wc.heap.size := (Array.getElem?_eq_some_iff.1 hk.lies).1
    have K1 := hk.grown (World.grownBy_alloc wc (.cells #[.int .i64 (f : Int)] 3) none) (fun _ e => by cases e)
    have la : (litHp wc.heap.size #[.int .i64 (f : Int)] 3).Apart (QP Wb (.slice none 0 0) nv) := lit_apart (fun h => by
      rcases h with h | h | h
      · omega
      · cases h
      · have := (hk.seen.lt _ h).2
        omega)
    have HB := hide (begin_any Mb Wb S f _ _ _ nv ys hp [] [] sn 0 _ [f] _ _ (HA.out.grown K1.hin) K1 (by omega) (lit_next wc.heap.size [f] (by show 1 ≤ 1000; omega)) (lit_in wc _ _) la (by intro q hq; simp at hq; subst hq; exact fl) sl sz)
    have WB := hide (wB.alloc wB.size (.cells #[.int .i64 (f : Int)] 3))
    have QL : Hid (∀ k, QP Wb (.slice none 0 0) nv k → w.heap.size ≤ k) := by
      intro k h
      rcases h with rfl | h | h
      · exact wW
      · cases h
      · exact wN k h
    clear hk K1 la hlies sl sz
    go_wp2_with fail
    refine HB.out.mono ?_
    rintro e w2 ⟨rfl, lv, L, sn2, k2, go2, ok2, ep2⟩
    obtain ⟨bl2, lo2⟩ := go_below WB.out go2 QL.out
    have wl2 : Wb < w2.heap.size := (Array.getElem?_eq_some_iff.1 k2.lies).1
    have START : FitU w (w2.alloc (.stringIter s 0)) Mb Wb w2.heap.size S f hp (.slice (some ⟨gst, 0, none⟩) S.length cst) nv s lv (.slice none 0 0) L [] sn2 1 0 0 := by
      refine ⟨k2.grown (World.grownBy_alloc w2 _ none) (fun _ e => by cases e), ok2, by omega, Nat.le_refl _, Nat.zero_le _, heap_alloc_new w2 _, fun q => ?_, by simp, Nat.zero_le _, fun h => ?_, k2.hin.free (Nat.le_refl _), fun k h => ?_, bl2.size, bl2.alloc bl2.size _⟩
      · rw [ep2, path_zero]
      · rcases h with (h | h | h) | h
        · omega
        · have := (k2.live.lt _ h).2; omega
        · have := (k2.seen.lt _ h).2; omega
        · cases h
      · rcases h with h | h
        · exact lo2 k h
        · cases h
    have ST := hide START
    clear START k2 go2 ok2 ep2 bl2 lo2 HB WB QL c0 c1 cf
    go_wp2_with fail
    go_loopw [] (fun wr => ∃ lv bv L B sn r pos idx, FitU w wr Mb Wb w2.heap.size S f hp (.slice (some ⟨gst, 0, none⟩) S.length cst) nv s lv bv L B sn r pos idx) (fun wr => s.size - posOf wr w2.heap.size)
    case atStart => exact ⟨_, _, _, _, _, _, _, _, ST.out⟩
    case round =>
      obtain ⟨lv, bv, L, B, sn, r, pos, idx, hu⟩ := hrel
      rename World => wr
      have HU := hide hu
      have pos1 : posOf wr w2.heap.size = pos := by unfold posOf; rw [hu.iter]
      by_cases hp1 : pos < s.size
      · have hnx : ∀ ty, (Instr.next (.pointer (some ⟨w2.heap.size, 0, none⟩)) true ty).run Tryd.prog wr = _ := fun ty => Lib.run_next_any_at wr w2.heap.size s pos ty hu.iter hp1
        have hwd := Lib.decode_width_pos s pos hp1
        have hwl := width_le s pos hp1
        have sa := signs_at hp1
        have gi : (signsL s.data.toList)[idx]? = some (Utf8.decode s pos).1 := by
          have := hu.rest
          rw [sa] at this
          have e := congrArg List.head? this
          rw [List.head?_drop] at e
          exact e
        have dr : (signsL s.data.toList).drop (idx + 1) = signsL (s.data.toList.drop (pos + (Utf8.decode s pos).2)) := by
          rw [← List.drop_drop, hu.rest, sa]; rfl
        have K3 := hu.wk.far (iter_grown wr w2.heap.size s (pos + (Utf8.decode s pos).2)) hu.far hu.hI
        have IT := Lib.iterAt_heap wr w2.heap.size s pos (pos + (Utf8.decode s pos).2) hu.iter
        have BL3 := Lib.below_iterAt hu.below hu.Il s (pos + (Utf8.decode s pos).2)
        have rl := hu.rl
        have ip := hu.ip
        have HO := hide (over_any Mb Wb S f _ lv bv nv ys hp L B sn r (Utf8.decode s pos).1 _ (HA.out.grown K3.hin) K3 (by omega) hu.ok)
        have GI := hide gi
        have DR := hide dr
        have IT := hide IT
        have BL3 := hide BL3
        clear hu K3 gi dr sa ST
        generalize (Utf8.decode s pos).2 = wd at *
        generalize (Utf8.decode s pos).1 = ch at *
        generalize wr.iterAt w2.heap.size s (pos + wd) = w3 at *
        go_wp2_with fail
        refine HO.out.mono ?_
        rintro e w4 ⟨rfl, lv4, bv4, L4, B4, sn4, k4, go4, ok4, ep4⟩
        obtain ⟨it4, far4⟩ := go4.heap IT.out HU.out.far
        obtain ⟨bl4, lo4⟩ := go_below BL3.out go4 HU.out.low
        have NX : FitU w w4 Mb Wb w2.heap.size S f hp (.slice (some ⟨gst, 0, none⟩) S.length cst) nv s lv4 bv4 L4 B4 sn4 (r + 1) (pos + wd) (idx + 1) :=
          ⟨k4, ok4, by omega, by omega, hwl, it4, fun q => by rw [ep4, path_succ GI.out HU.out.mem], DR.out, (by have := (List.getElem?_eq_some_iff.1 GI.out).1; omega), far4, HU.out.hI, lo4, HU.out.Il, bl4⟩
        have NX := hide NX
        have IT4 := hide it4
        clear k4 go4 ok4 ep4 it4 far4 bl4 lo4
        go_wp2_with fail
        go_roundw
        case rel => exact ⟨_, _, _, _, _, _, _, _, NX.out⟩
        case measure =>
          have : posOf w4 w2.heap.size = pos + wd := by unfold posOf; rw [IT4.out]
          rw [this, pos1]; omega
      · have hnx : ∀ ty, (Instr.next (.pointer (some ⟨w2.heap.size, 0, none⟩)) true ty).run Tryd.prog wr = _ := fun ty => Lib.run_next_end_at wr w2.heap.size s pos ty hu.iter hp1
        obtain ⟨c0, c1, c2, c3, c4, cf⟩ := cells5_at hu.wk.lies
        have HC := hide (contains_own wr lv L 0 hu.wk.live (by have := hu.ok.few; omega))
        have LE : (signsL s.data.toList).length = idx := by
          have e := hu.rest
          rw [show s.data.toList.drop pos = [] from List.drop_eq_nil_of_le (by simp; omega), signs_nil] at e
          have h1 := List.drop_eq_nil_iff.1 e
          have := hu.il
          omega
        have LE := hide LE
        obtain ⟨lq, ln, lc, el⟩ := own_shape hu.wk.live
        subst el
        clear hu ST
        go_wp2_with fail
        refine HC.out.mono ?_
        rintro e w4 ⟨rfl, hw⟩
        obtain rfl : wr = w4 := hw.symm
        clear hw
        go_wp2_with fail
        go_ret
        refine ⟨⟨_, rfl, ?_⟩, HU.out.below⟩
        rw [decide_eq_true_eq, HU.out.mem, LE.out]

theorem cost_of {p : List UInt8} {x : Pat} (hl : p.length ≤ 200) (h : patOf p = some x) : cost x ≤ 800000 := by
  have := cost_all 8 _ _ _ (patOf_some.1 h)
  have := signs_len _ p (Nat.le_refl _)
  omega
set_option maxHeartbeats 4000000 in
theorem patFits_any (p s : ByteArray) (w : World) (_hp : p.size ≤ maxLen) (_hs : s.size ≤ maxLen) (hT : Tabs w) :
    Calls Tryd.prog 13 #[.string p, .string s] w fun e w' => e = .returned (fitV p s) ∧ Below w.heap.size w w' := by
  have HR := hide (read_any p w hT)
  have sm : (s.size : Int) ≤ 9223372036854775807 := by unfold maxLen at _hs; omega
  go_enter Tryd.func13, Tryd.ntmps13
  go_wp2_with fail
  refine HR.out.mono ?_
  rintro e w1 ⟨⟨rv, b, rfl, ⟨q, n, c, rfl⟩, hv⟩, b1⟩
  rcases hv with ⟨rfl, hr⟩ | ⟨rfl, hr, x, hp, hx, hg, hin, hfr⟩
  · have E := hide (fitV_form (s := s) hr)
    clear hr
    go_wp2_with fail
    go_ret2
    exact ⟨by rw [E.out]; rfl, b1.alloc b1.size _⟩
  · by_cases h4 : 4000 < s.size
    · have z : (4000 : Int) < (s.size : Int) := by omega
      have E := hide (fitV_range hr h4)
      clear hr hg hin hfr hx
      go_wp2_with fail
      go_ret2
      exact ⟨by rw [E.out]; rfl, b1.alloc b1.size _⟩
    · have z : ¬ (4000 : Int) < (s.size : Int) := by omega
      have E := hide (fitV_ok hr h4 hx)
      have hl := (right_iff.1 hr).1
      have i2 := hin.grown (World.grownBy_alloc w1 (.cells #[.slice q n c] 37) none) (fun _ e => by cases e)
      have HB := hide (build_any x (.slice q n c) hp _ hg i2 (cost_of hl hx))
      have B1 := hide (b1.alloc b1.size (.cells #[.slice q n c] 37))
      clear hr hg hin hfr hx i2 hl b1
      go_wp2_with fail
      refine HB.out.mono ?_
      rintro e w2 ⟨Mb, S, f, hp2, sv, xs, rfl, ha, hpath, b2⟩
      have HF := hide (mfits_any Mb S f hp2 sv xs s w2 ha (by omega))
      have HPA := hide (hpath (signsL s.data.toList))
      have B2 := hide (B1.out.trans (b2.mono B1.out.size))
      clear ha hpath b2
      go_wp2_with fail
      refine HF.out.mono ?_
      rintro e w3 ⟨⟨b, rfl, hb⟩, b3⟩
      have EB : b = fitB x (signsL s.data.toList) := by
        rw [Bool.eq_iff_iff, hb, HPA.out, fit_iff]
      subst EB
      clear hb
      go_wp2_with fail
      go_ret2
      exact ⟨by rw [E.out]; rfl, B2.out.trans (b3.mono B2.out.size)⟩
abbrev PatTabs (w : World) : Prop := Tabs w
theorem PatTabs.below {w w' : World} (h : PatTabs w) (hb : Below w.heap.size w w') : PatTabs w' := Tabs.below h hb

end Go.Proofs.YtncljgpcloanfaaDoor
