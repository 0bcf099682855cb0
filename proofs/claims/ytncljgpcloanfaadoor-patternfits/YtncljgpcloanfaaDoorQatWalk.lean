/- A walk through a machine in memory; 'put'. Condition: fewer than 900000 states. The program's 'begin'. Condition: fewer than 900000 states. The program's 'over'. Condition: fewer than 900000 states. slices.Contains of a row of numbers of the call's own. No condition. -/
import Derived.Test.YtncljgpcloanfaaDoorQatZ1
import Derived.BigRegion
namespace Go.Proofs.YtncljgpcloanfaaDoor
open Go.RowKit

/-- What 'put' may change. -/
def QP (Wb : Nat) (lv nv : Value) (k : Nat) : Prop := k = Wb ∨ lv.ownBlock = some k ∨ nv.ownBlock = some k
/-- A walk in block Wb: the machine's states, those that are live, those behind, the rounds. -/
structure Wk (w : World) (Wb : Nat) (sv lv bv nv : Value) (hp : Hp) (n : Nat) (L B sn : List Nat) (r : Nat) : Prop where
  lies : w.heap[Wb]? = some (.cells #[sv, lv, bv, nv, .int .i64 (r : Int)] 63 (0, 0))
  live : w.ownsRow 0 3 1 lv L.length (L.map cellI)
  beh : w.ownsRow 0 3 1 bv B.length (B.map cellI)
  seen : w.ownsRow 0 3 1 nv n (sn.map cellI)
  lW : lv.ownBlock ≠ some Wb
  bW : bv.ownBlock ≠ some Wb
  nW : nv.ownBlock ≠ some Wb
  lb : ∀ j, lv.ownBlock = some j → bv.ownBlock ≠ some j
  ln : ∀ j, lv.ownBlock = some j → nv.ownBlock ≠ some j
  bn : ∀ j, bv.ownBlock = some j → nv.ownBlock ≠ some j
  hin : hp.In w
  ap : hp.Apart (QP Wb lv nv)
  apb : ∀ j, bv.ownBlock = some j → hp j = none
theorem cells5_at {w : World} {k : Nat} {a b c d e : Value} {t : TypeId} (h : w.heap[k]? = some (.cells #[a, b, c, d, e] t (0, 0))) : w.cell? ⟨k, 0, none⟩ = some a ∧ w.cell? ⟨k, 1, none⟩ = some b ∧ w.cell? ⟨k, 2, none⟩ = some c ∧ w.cell? ⟨k, 3, none⟩ = some d ∧ w.cell? ⟨k, 4, none⟩ = some e ∧ ∀ j, w.frozen? ⟨k, j, none⟩ = false := by
  refine ⟨by simp [World.cell?, h], by simp [World.cell?, h], by simp [World.cell?, h], by simp [World.cell?, h], by simp [World.cell?, h], fun j => by simp [World.frozen?, h]⟩
theorem kept_of {w w' : World} {row : Option Nat} {base : Nat} {e : TypeId} {size : Nat} {v : Value} {n : Nat} {xs : List Value} (h : w.ownsRow base e size v n xs) (g : w.grownBy w' row) (hr : ∀ j, row = some j → v.ownBlock ≠ some j) : w'.ownsRow base e size v n xs := by
  refine h.kept g ?_
  cases hv : v.ownBlock with
  | none => exact .inl rfl
  | some j =>
    right
    intro e
    exact hr j e.symm hv
/-- Another call, which changes none of its blocks. -/
theorem Wk.grown {w w' : World} {Wb : Nat} {sv lv bv nv : Value} {hp : Hp} {n : Nat} {L B sn : List Nat} {r : Nat} {row : Option Nat} (h : Wk w Wb sv lv bv nv hp n L B sn r) (g : w.grownBy w' row) (hr : ∀ j, row = some j → w.heap.size ≤ j) : Wk w' Wb sv lv bv nv hp n L B sn r := by
  have hv : ∀ {base : Nat} {e : TypeId} {size : Nat} {v : Value} {n : Nat} {xs : List Value}, w.ownsRow base e size v n xs → w'.ownsRow base e size v n xs := fun o => kept_of o g (fun j e e2 => by have := (o.lt j e2).2; have := hr j e; omega)
  refine ⟨grown_heap g h.lies (fun e => by have := hr _ e; have := (Array.getElem?_eq_some_iff.1 h.lies).1; omega), hv h.live, hv h.beh, hv h.seen, h.lW, h.bW, h.nW, h.lb, h.ln, h.bn, h.hin.grown g (fun k e => h.hin.free (hr k e)), h.ap, h.apb⟩
/-- The round's mark of a state. -/
theorem Wk.mark {w : World} {Wb : Nat} {sv lv bv nv : Value} {hp : Hp} {n : Nat} {L B sn : List Nat} {r : Nat} (h : Wk w Wb sv lv bv nv hp n L B sn r) {g cap a : Nat} (e : nv = .slice (some ⟨g, 0, none⟩) n cap) (x : Nat) :
    Wk (w.setCell ⟨g, a, none⟩ (.int .i64 (x : Int))) Wb sv lv bv nv hp n L B (sn.set a x) r := by
  have eb : nv.ownBlock = some g := by rw [e]; rfl
  have gs := grown_set w ⟨g, a, none⟩ (.int .i64 (x : Int))
  refine ⟨grown_heap gs h.lies (fun e2 => h.nW (by rw [eb]; exact e2)), kept_of h.live gs (fun j e2 e3 => h.ln j e3 (by rw [eb]; exact e2)), kept_of h.beh gs (fun j e2 e3 => h.bn j e3 (by rw [eb]; exact e2)), ?_, h.lW, h.bW, h.nW, h.lb, h.ln, h.bn, h.hin.grown gs (fun k e2 => h.ap.none (.inr (.inr (by rw [eb]; exact e2)))), h.ap, h.apb⟩
  have s := h.seen
  subst e
  have := (s.stored a (.int .i64 (x : Int))).1
  rw [List.map_set]
  exact this
/-- One more that is live. -/
theorem Wk.push {w6 w7 : World} {Wb : Nat} {sv lv bv nv : Value} {hp : Hp} {n : Nat} {L B sn : List Nat} {r : Nat} {o : Obj} {g7 cap7 a : Nat} (h : Wk w6 Wb sv lv bv nv hp n L B sn r)
    (hown : w7.ownsRow 0 3 1 (.slice (some ⟨g7, 0, none⟩) (L.length + 1) cap7) (L.length + 1) (L.map cellI ++ [.int .i64 (a : Int)])) (hg : (w6.alloc o).grownBy w7 lv.ownBlock) (hat : lv.ownBlock = some g7 ∨ g7 = (w6.alloc o).heap.size) :
    Wk (w7.setCell ⟨Wb, 1, none⟩ (.slice (some ⟨g7, 0, none⟩) (L.length + 1) cap7)) Wb sv (.slice (some ⟨g7, 0, none⟩) (L.length + 1) cap7) bv nv hp n (L ++ [a]) B sn r ∧
      MGo (QP Wb lv nv) (QP Wb (.slice (some ⟨g7, 0, none⟩) (L.length + 1) cap7) nv) w6 (w7.setCell ⟨Wb, 1, none⟩ (.slice (some ⟨g7, 0, none⟩) (L.length + 1) cap7)) ∧
      w7.heap[Wb]? = some (.cells #[sv, lv, bv, nv, .int .i64 (r : Int)] 63 (0, 0)) := by
  have h6 := h.grown (World.grownBy_alloc w6 o none) (fun _ e => by cases e)
  have sz : (w6.alloc o).heap.size = w6.heap.size + 1 := by simp
  have wl := (Array.getElem?_eq_some_iff.1 h6.lies).1
  have gs := grown_set w7 ⟨Wb, 1, none⟩ (.slice (some ⟨g7, 0, none⟩) (L.length + 1) cap7)
  have L7 := grown_heap hg h6.lies h.lW
  have gW : g7 ≠ Wb := by
    rcases hat with e | e
    · intro e2; subst e2; exact h.lW e
    · omega
  have gB : ∀ j, bv.ownBlock = some j → g7 ≠ j := by
    intro j ej e2
    subst e2
    rcases hat with e | e
    · exact h.lb _ e ej
    · have := (h6.beh.lt _ ej).2
      omega
  have gN : ∀ j, nv.ownBlock = some j → g7 ≠ j := by
    intro j ej e2
    subst e2
    rcases hat with e | e
    · exact h.ln _ e ej
    · have := (h6.seen.lt _ ej).2
      omega
  have h7 : hp.In w7 := h6.hin.grown hg (fun k e => h.ap.none (.inr (.inl e)))
  have h0 : hp g7 = none := by
    rcases hat with e | e
    · exact h.ap.none (.inr (.inl e))
    · exact h6.hin.free (by omega)
  have ap8 : hp.Apart (QP Wb (.slice (some ⟨g7, 0, none⟩) (L.length + 1) cap7) nv) := fun k x e hk => by
    rcases hk with rfl | hk | hk
    · exact h.ap _ x e (.inl rfl)
    · cases hk; rw [h0] at e; cases e
    · exact h.ap k x e (.inr (.inr hk))
  refine ⟨⟨?_, ?_, ?_, ?_, ?_, h.bW, h.nW, ?_, ?_, h.bn, h7.grown gs (fun k e => by cases e; exact h.ap.none (.inl rfl)), ap8, h.apb⟩, ?_, L7⟩
  · simp [World.setCell, Array.getElem?_modify, L7]
  · rw [List.length_append, List.length_singleton, List.map_append]
    exact kept_of hown gs (fun j e e2 => by cases e; cases e2; exact gW rfl)
  · exact kept_of (kept_of h6.beh hg (fun j e => h.lb j e)) gs (fun j e e2 => by cases e; exact h.bW e2)
  · exact kept_of (kept_of h6.seen hg (fun j e => h.ln j e)) gs (fun j e e2 => by cases e; exact h.nW e2)
  · intro e; cases e; exact gW rfl
  · intro j e e2; cases e; exact gB _ e2 rfl
  · intro j e e2; cases e; exact gN _ e2 rfl
  · have m1 := (((MGo.refl (QP Wb lv nv) w6).alloc o).grown hg (fun k e => .inl (.inr (.inl e)))).grown gs (fun k e => by cases e; exact .inl (.inl rfl))
    refine ⟨m1.os, m1.tape, m1.output, m1.size, m1.keep, fun k hk => ?_⟩
    rcases hk with rfl | hk | hk
    · exact .inl (.inl rfl)
    · cases hk
      rcases hat with e | e
      · exact .inl (.inr (.inl e))
      · right; show w6.heap.size ≤ g7; omega
    · exact .inl (.inr (.inr hk))
theorem take_step {l : List Nat} {i : Nat} (h : i < l.length) : l.take (i + 1) = l.take i ++ [l[i]] := by rw [List.take_succ_eq_append_getElem h]

set_option maxHeartbeats 8000000 in
theorem put_any (Wb : Nat) (sv lv bv nv : Value) (hp : Hp) (n : Nat) (L B sn : List Nat) (r : Nat) (v : Value) (l : List Nat) (hs : Hp) (w : World) (hw : Wk w Wb sv lv bv nv hp n L B sn r) (hn : n ≤ 900000) (hr : r ≤ 900000) (hv : NextIs hs v l) (hsi : hs.In w) (hsa : hs.Apart (QP Wb lv nv)) (hl : ∀ q ∈ l, q < n) (hok : SeenOk n r L sn) :
    Calls Tryd.prog 40 #[.pointer (some ⟨Wb, 0, none⟩), v] w fun e w' => e = .returned (.tuple #[]) ∧ ∃ lv' L' sn', Wk w' Wb sv lv' bv nv hp n L' B sn' r ∧ MGo (QP Wb lv nv) (QP Wb lv' nv) w w' ∧ PutR n r L sn l L' sn' := by
  obtain ⟨q, m, c, rfl⟩ := RowIn.shape hv
  have ll : l.length ≤ 9223372036854775807 := by
    rcases hv.2 with ⟨_, e2⟩ | ⟨g, cap, cur, _, _, e3, e4, _⟩
    · omega
    · unfold maxLen at e4; omega
  obtain rfl : m = l.length := by
    rcases hv.2 with ⟨e, e2⟩ | ⟨g, cap, cur, e, _⟩
    · cases e; exact e2.symm
    · cases e; rfl
  have HV := hide hv
  have HSI := hide hsi
  have HSA := hide hsa
  have HW := hide hw
  have HOK := hide hok
  have HL := hide hl
  clear hv hsi hsa hw hok hl
  go_enter Tryd.func40, Tryd.ntmps40
  go_wp2_with fail
  go_loopw [8] (fun iv wr => ∃ (i : Nat) (lv' : Value) (L' sn' : List Nat), i ≤ l.length ∧ iv = .int .i64 (i : Int) ∧ Wk wr Wb sv lv' bv nv hp n L' B sn' r ∧ MGo (QP Wb lv nv) (QP Wb lv' nv) w wr ∧ PutR n r L sn (l.take i) L' sn') (fun iv _ => l.length - (intOf iv).toNat)
  case atStart => exact ⟨0, lv, L, sn, Nat.zero_le _, rfl, HW.out, MGo.refl _ _, by simpa using PutR.start HOK.out⟩
  case round =>
    obtain ⟨i, lv', L', sn', hi, rfl, hk, go, pr⟩ := hrel
    rename World => wr
    by_cases hlt : i < l.length
    · obtain ⟨hsr, har⟩ := HSI.out.go HSA.out go
      obtain ⟨g, cp, e, gn, _, _, hcell⟩ := HV.out.form (by omega) hsr
      cases e
      have ka : wr.cell? ⟨g, i, none⟩ = some (.int .i64 (l[i] : Int)) := by rw [hcell _ (by omega)]; simp [cellI, hlt]
      have an := HL.out l[i] (List.getElem_mem hlt)
      obtain ⟨w0, w1, w2, w3, w4, wf⟩ := cells5_at hk.lies
      obtain ⟨gs, cs, es, _, gsl⟩ := hk.seen.form (by omega)
      have sl := pr.ok.len
      have so := hk.seen
      rw [es] at so
      obtain ⟨x, hx⟩ : ∃ x, sn'[l[i]]? = some x := ⟨sn'[l[i]]'(by rw [sl]; exact an), List.getElem?_eq_getElem _⟩
      have ks : wr.cell? ⟨gs, l[i], none⟩ = some (.int .i64 (x : Int)) := by
        rw [so.cellAt _ (by omega), List.getElem?_map, hx]; rfl
      have fs := so.frozenAt l[i]
      have TS := hide (take_step hlt)
      have GE := hide hx
      have HK := hide hk
      have GO := hide go
      have PR := hide pr
      have ES := hide es
      have z1 : (i : Int) < (l.length : Int) := by omega
      have z2 : (l.length : Int) ≤ 9223372036854775807 := by omega
      have z3 : (l[i] : Int) < (n : Int) := by omega
      have few := pr.ok.few
      subst es
      clear hk go pr so hcell hsr har gn sl hx
      generalize l[i] = a at *
      by_cases hxr : x = r
      · subst hxr
        have y1 : ((x : Int) != (x : Int)) = false := by simp
        go_wp2_with fail
        go_quiet (fail)
        go_wp2_with fail
        go_roundw
        case rel => exact ⟨i + 1, lv', L', sn', by omega, by go_num, HK.out.grown (grown_drewN _ _ none) (fun _ e => by cases e), GO.out.grown (grown_drewN _ _ none) (fun _ e => by cases e), by rw [TS.out]; exact PR.out.skip (by omega) GE.out⟩
        case measure => simp [intOf]; omega
      · have y1 : ((x : Int) != (r : Int)) = true := by rw [bne_iff_ne]; omega
        have PA := hide (PR.out.add (a := a) (by omega) (by rw [GE.out]; intro e; cases e; exact hxr rfl))
        clear GE PR
        go_wp2_with fail
        go_quiet (fail)
        have HK1 := hide (HK.out.grown (grown_drewN wr nq none) (fun _ e => by cases e))
        have GO1 := hide (GO.out.grown (grown_drewN wr nq none) (fun _ e => by cases e))
        have ks1 : (wr.drewN nq).cell? ⟨gs, a, none⟩ = some (.int .i64 (x : Int)) := ks
        have fs1 : (wr.drewN nq).frozen? ⟨gs, a, none⟩ = false := fs
        clear HK GO w0 w1 w2 w3 w4 wf ks fs ka gsl
        generalize wr.drewN nq = w5 at *
        obtain ⟨w0, w1, w2, w3, w4, wf⟩ := cells5_at HK1.out.lies
        go_wp2_with fail
        go_region
        all_goals
          have HK2 := hide ((HK1.out.mark (a := a) rfl r).grown (grown_drew _ none) (fun _ e => by cases e))
          have GO2 := hide ((GO1.out.grown (grown_set w5 ⟨gs, a, none⟩ (.int .i64 (r : Int))) (fun j e => by
            cases e
            exact GO1.out.foot gs (.inr (.inr rfl)))).grown (grown_drew _ none) (fun _ e => by cases e))
          clear HK1 GO1 w0 w1 w2 w3 w4 wf ks1 fs1
          generalize (w5.setCell ⟨gs, a, none⟩ (.int .i64 (r : Int))).drew = w6 at *
          obtain ⟨w0, w1, w2, w3, w4, wf⟩ := cells5_at HK2.out.lies
          have ow6 := hide (HK2.out.live.alloc (.cells #[.int .i64 (a : Int)] 3))
          have SRC : Hid (∀ j, j < 1 * 1 → (w6.alloc (.cells #[.int .i64 (a : Int)] 3)).cell? ⟨w6.heap.size, j, none⟩ = [Value.int .i64 (a : Int)][j]?) := by
            intro j hj
            rw [cell_of_row _ _ j _ _ _ (heap_alloc_new w6 _)]
            simp
          go_wp2_with (at_builtin; refine wpList_append_row rt_int _ rfl _ _ rfl 0 lv' L'.length (L'.map cellI) rfl ow6.out w6.heap.size 1 1 [Value.int .i64 (a : Int)] rfl rfl SRC.out (by intro u hu; simp at hu; subst hu; rfl) (by omega) (by omega) (by omega) (Nat.zero_le _) ?_; intro g7 cap7 w7 hown7 hgrow7 hat7 hlt7; obtain ⟨HK3, GO3, L7⟩ := HK2.out.push hown7 hgrow7 hat7; obtain ⟨v0, v1, v2, v3, v4, vf⟩ := cells5_at L7; replace HK3 := hide HK3; replace GO3 := hide GO3)
          refine ⟨⟨i + 1, _, L' ++ [a], sn'.set a r, by omega, by go_num, HK3.out, GO2.out.trans GO3.out, by rw [TS.out]; exact PA.out⟩, by simp [intOf]; omega⟩
    · obtain rfl : i = l.length := by omega
      have z1 : ¬ (l.length : Int) < (l.length : Int) := by omega
      have HK := hide hk
      have GO := hide go
      rw [List.take_of_length_le (Nat.le_refl _)] at pr
      have PR := hide pr
      clear hk go pr
      go_wp2_with fail
      go_end0
      exact ⟨rfl, lv', L', sn', HK.out, GO.out, PR.out⟩

end Go.Proofs.YtncljgpcloanfaaDoor
namespace Go.Proofs.YtncljgpcloanfaaDoor
open Go.RowKit

/-- 'x = x[:0]'. -/
theorem slice_zero {w : World} {lv : Value} {m : Nat} {xs : List Value} (h : w.ownsRow 0 3 1 lv m xs) :
    ∃ lv0, (∀ w, (Instr.slice 32 lv none (some (.int .i64 0)) none).run Tryd.prog w = .ok lv0 w) ∧ lv0.ownBlock = lv.ownBlock ∧ (∃ q k c, lv0 = .slice q k c) ∧ ∀ w' : World, w'.ownsRow 0 3 1 lv m xs → w'.ownsRow 0 3 1 lv0 0 [] := by
  rcases h.2 with ⟨rfl, _⟩ | ⟨g, cap, cur, rfl, _, _, hc, hm, _⟩
  · exact ⟨.slice none 0 0, (fun w => by kernel_rfl), rfl, ⟨_, _, _, rfl⟩, fun w' _ => World.ownsRow_nil _ _ _ _⟩
  · refine ⟨.slice (some ⟨g, 0, none⟩) 0 cap, fun w => ?_, rfl, ⟨_, _, _, rfl⟩, fun w' ho => ?_⟩
    · go_simp
    · rcases ho.2 with ⟨e, _⟩ | ⟨g', cap', cur', e, b1, b2, b3, b4, b5, b6⟩
      · cases e
      · cases e
        exact ⟨rfl, .inr ⟨g, cap, cur', rfl, b1, b2, Nat.zero_le _, b4, b5, by simp⟩⟩
/-- The next round. -/
theorem Wk.round {w : World} {Wb : Nat} {sv lv bv nv : Value} {hp : Hp} {n : Nat} {L B sn : List Nat} {r : Nat} (h : Wk w Wb sv lv bv nv hp n L B sn r) (r2 : Nat) : Wk (w.setCell ⟨Wb, 4, none⟩ (.int .i64 (r2 : Int))) Wb sv lv bv nv hp n L B sn r2 := by
  have gs := grown_set w ⟨Wb, 4, none⟩ (.int .i64 (r2 : Int))
  have k : ∀ {base : Nat} {e : TypeId} {size : Nat} {v : Value} {n : Nat} {xs : List Value}, w.ownsRow base e size v n xs → v.ownBlock ≠ some Wb → (w.setCell ⟨Wb, 4, none⟩ (.int .i64 (r2 : Int))).ownsRow base e size v n xs := fun o ho => kept_of o gs (fun j e => by cases e; exact ho)
  exact ⟨by simp [World.setCell, Array.getElem?_modify, h.lies], k h.live h.lW, k h.beh h.bW, k h.seen h.nW, h.lW, h.bW, h.nW, h.lb, h.ln, h.bn, h.hin.grown gs (fun j e => by cases e; exact h.ap.none (.inl rfl)), h.ap, h.apb⟩
/-- Nothing is live. -/
theorem Wk.clears {w : World} {Wb : Nat} {sv lv bv nv lv0 : Value} {hp : Hp} {n : Nat} {L B sn : List Nat} {r : Nat} (h : Wk w Wb sv lv bv nv hp n L B sn r) (e : lv0.ownBlock = lv.ownBlock) (ho : ∀ w' : World, w'.ownsRow 0 3 1 lv L.length (L.map cellI) → w'.ownsRow 0 3 1 lv0 0 []) : Wk (w.setCell ⟨Wb, 1, none⟩ lv0) Wb sv lv0 bv nv hp n [] B sn r := by
  have gs := grown_set w ⟨Wb, 1, none⟩ lv0
  have k : ∀ {base : Nat} {e : TypeId} {size : Nat} {v : Value} {n : Nat} {xs : List Value}, w.ownsRow base e size v n xs → v.ownBlock ≠ some Wb → (w.setCell ⟨Wb, 1, none⟩ lv0).ownsRow base e size v n xs := fun o ho => kept_of o gs (fun j e => by cases e; exact ho)
  exact ⟨by simp [World.setCell, Array.getElem?_modify, h.lies], ho _ (k h.live h.lW), k h.beh h.bW, k h.seen h.nW, by rw [e]; exact h.lW, h.bW, h.nW, by rw [e]; exact h.lb, by rw [e]; exact h.ln, h.bn, h.hin.grown gs (fun j e => by cases e; exact h.ap.none (.inl rfl)), (fun a b c d => by unfold QP at d; rw [e] at d; exact h.ap a b c d), h.apb⟩
theorem QP_eq {Wb : Nat} {lv lv0 nv : Value} (e : lv0.ownBlock = lv.ownBlock) : QP Wb lv0 nv = QP Wb lv nv := by funext k; unfold QP; rw [e]

set_option maxHeartbeats 8000000 in
theorem begin_any (Mb Wb : Nat) (S : List St) (f : Nat) (sv lv bv nv : Value) (ys : List Value) (hp : Hp) (L B sn : List Nat) (r : Nat) (v : Value) (l : List Nat) (hs : Hp) (w : World) (ha : Auto w Mb S f hp sv ys) (hw : Wk w Wb sv lv bv nv hp S.length L B sn r) (hr : r ≤ 800000) (hv : NextIs hs v l) (hsi : hs.In w) (hsa : hs.Apart (QP Wb lv nv)) (hl : ∀ q ∈ l, q < S.length) (hsl : sn.length = S.length) (hle : ∀ x ∈ sn, x ≤ r) :
    Calls Tryd.prog 28 #[.pointer (some ⟨Wb, 0, none⟩), v] w fun e w' => e = .returned (.tuple #[]) ∧ ∃ lv' L' sn', Wk w' Wb sv lv' bv nv hp S.length L' B sn' (r + 1) ∧ MGo (QP Wb lv nv) (QP Wb lv' nv) w w' ∧ SeenOk S.length (r + 1) L' sn' ∧ ∀ q, q ∈ L' ↔ Eps S l q := by
  obtain ⟨lv0, sl1, sl2, ⟨sq, sk, sc, rfl⟩, sl4⟩ := slice_zero hw.live
  obtain ⟨c0, c1, c2, c3, c4, cf⟩ := cells5_at hw.lies
  have few := ha.few
  have hw1 := (hw.round (r + 1)).clears sl2 sl4
  have g1 := (((MGo.refl (QP Wb lv nv) w).grown (grown_set w ⟨Wb, 4, none⟩ (.int .i64 ((r + 1 : Nat) : Int))) (fun k e => by cases e; exact .inl (.inl rfl))).grown (grown_set _ ⟨Wb, 1, none⟩ (.slice sq sk sc)) (fun k e => by cases e; exact .inl (.inl rfl)))
  have HR1 : (hs.In ((w.setCell ⟨Wb, 4, none⟩ (.int .i64 ((r + 1 : Nat) : Int))).setCell ⟨Wb, 1, none⟩ (.slice sq sk sc))) := (hsi.go hsa g1).1
  have hsa1 : hs.Apart (QP Wb (.slice sq sk sc) nv) := by rw [QP_eq sl2]; exact hsa
  have HP := hide (put_any Wb sv (.slice sq sk sc) bv nv hp S.length [] B sn (r + 1) v l hs _ hw1 few (by omega) hv HR1 hsa1 hl (seen_next hsl hle))
  rw [QP_eq sl2] at HP
  rw [show ((r + 1 : Nat) : Int) = (r : Int) + 1 by omega] at HP g1
  have G1 := hide g1
  have HA := hide ha
  have r0 : (r : Int) ≤ 800000 := by omega
  clear ha hw hw1 g1 HR1 hsa1 hv hsi hsa hl hsl hle sl4
  go_enter Tryd.func28, Tryd.ntmps28
  go_wp2_with fail
  refine HP.out.mono ?_
  rintro e w2 ⟨rfl, lv2, L2, sn2, k2, go2, pr2⟩
  have K2 := hide k2
  have GO2 := hide (G1.out.trans go2)
  have CL2 : Hid (Clo S S.length (r + 1) l L2 sn2 0) := ⟨pr2.ok, (fun q hq => (pr2.mem q).2 (.inr hq)), (fun q hq => by
    rcases (pr2.mem q).1 hq with h | h
    · cases h
    · exact .base h), (fun k q st hk => by omega)⟩
  clear k2 go2 pr2 HP G1 c0 c1 c2 c3 c4 cf sl1
  go_wp2_with fail
  go_loopw [4] (fun iv wr => ∃ (i : Nat) (lv' : Value) (L' sn' : List Nat), i ≤ L'.length ∧ iv = .int .i64 (i : Int) ∧ Wk wr Wb sv lv' bv nv hp S.length L' B sn' (r + 1) ∧ MGo (QP Wb lv nv) (QP Wb lv' nv) w wr ∧ Clo S S.length (r + 1) l L' sn' i) (fun iv _ => S.length - (intOf iv).toNat)
  case atStart => exact ⟨0, lv2, L2, sn2, Nat.zero_le _, rfl, K2.out, GO2.out, CL2.out⟩
  case round =>
    obtain ⟨i, lv', L', sn', hi, rfl, hk, go, cl⟩ := hrel
    rename World => wr
    obtain ⟨c0, c1, c2, c3, c4, cf⟩ := cells5_at hk.lies
    have lf := cl.ok.few
    have HK := hide hk
    have GO := hide go
    have CL := hide cl
    by_cases hlt : i < L'.length
    · obtain ⟨gl, cpl, el, _, _⟩ := hk.live.form (by omega)
      have lo := hk.live
      rw [el] at lo
      have kl : wr.cell? ⟨gl, i, none⟩ = some (.int .i64 (L'[i] : Int)) := by
        rw [lo.cellAt _ (by omega)]; simp [cellI, hlt]
      have qn := cl.ok.lt L'[i] (List.getElem_mem hlt)
      obtain ⟨gst, cst, est, _, _, _, hcell⟩ := HA.out.row.form (by omega) hk.hin
      obtain ⟨d0, d1, d2, d3, b0, b1, b2, b3, sti⟩ := HA.out.elems L'[i] S[L'[i]] (List.getElem?_eq_getElem qn)
      obtain ⟨rfl, _, nxi, _⟩ := sti
      have k0 : wr.cell? ⟨gst, L'[i] * 4, none⟩ = some (.bool S[L'[i]].eats) := by rw [hcell _ (by omega), show L'[i] * 4 = 4 * L'[i] by omega]; exact b0
      have k3 : wr.cell? ⟨gst, L'[i] * 4 + 3, none⟩ = some d3 := by rw [hcell _ (by omega), show L'[i] * 4 + 3 = 4 * L'[i] + 3 by omega]; exact b3
      have GI := hide (List.getElem?_eq_getElem hlt)
      have GS := hide (List.getElem?_eq_getElem qn)
      have NX := hide nxi
      have SH := hide (HA.out.shut S[L'[i]] (List.getElem_mem qn))
      have z1 : (i : Int) < (L'.length : Int) := by omega
      have z2 : (L'.length : Int) ≤ 900000 := by omega
      have z3 : (L'[i] : Int) < (S.length : Int) := by omega
      subst el
      subst est
      clear hk go cl lo hcell b0 b1 b2 b3 nxi K2 GO2 CL2
      generalize hst : S[L'[i]] = st at *
      clear hst
      generalize L'[i] = q at *
      cases he : st.eats with
      | true =>
        rw [he] at k0
        go_wp2_with fail
        go_quiet (fail)
        go_wp2_with fail
        go_roundw
        case rel => exact ⟨i + 1, _, L', sn', by omega, by go_num, HK.out.grown (grown_drewN _ _ none) (fun _ e => by cases e), GO.out.grown (grown_drewN _ _ none) (fun _ e => by cases e), CL.out.eat GI.out GS.out he⟩
        case measure => simp [intOf]; omega
      | false =>
        rw [he] at k0
        have HP := hide (fun nq => put_any Wb _ _ bv nv hp S.length L' B sn' (r + 1) d3 st.next hp (wr.drewN nq) (HK.out.grown (grown_drewN _ _ none) (fun _ e => by cases e)) few (by omega) NX.out HK.out.hin HK.out.ap SH.out CL.out.ok)
        go_wp2_with fail
        go_quiet (fail)
        go_wp2_with fail
        refine (HP.out _).mono ?_
        rintro e w3 ⟨rfl, lv3, L3, sn3, k3', go3, pr3⟩
        have K3 := hide k3'
        have GO3 := hide ((GO.out.grown (grown_drewN _ _ none) (fun _ e => by cases e)).trans go3)
        have CL3 := hide (CL.out.more GI.out GS.out he pr3)
        have lf3 : i + 1 ≤ L3.length := by
          obtain ⟨t, ht⟩ := pr3.pre
          rw [← ht, List.length_append]; omega
        clear k3' go3 pr3
        go_wp2_with fail
        go_roundw
        case rel => exact ⟨i + 1, lv3, L3, sn3, lf3, by go_num, K3.out, GO3.out, CL3.out⟩
        case measure => simp [intOf]; omega
    · have z1 : ¬ (i : Int) < (L'.length : Int) := by omega
      have ST := hide (cl.stop (by omega))
      obtain ⟨lq, ln, lc, el⟩ := own_shape hk.live
      obtain rfl : ln = L'.length := by
        rcases hk.live.2 with ⟨e, e2⟩ | ⟨g, cap, cur, e, _⟩
        · rw [el] at e; cases e; exact e2.symm
        · rw [el] at e; cases e; rfl
      subst el
      clear hk go cl K2 GO2 CL2
      go_wp2_with fail
      go_end0
      exact ⟨rfl, _, L', sn', HK.out, GO.out, CL.out.ok, ST.out⟩

end Go.Proofs.YtncljgpcloanfaaDoor
namespace Go.Proofs.YtncljgpcloanfaaDoor
open Go.RowKit

/-- What 'over' may change. -/
def QO (Wb : Nat) (lv bv nv : Value) (k : Nat) : Prop := QP Wb lv nv k ∨ bv.ownBlock = some k
theorem grown_below' {w w' : World} (b : Below w.heap.size w w') (row : Option Nat) : w.grownBy w' row := ⟨b.os, b.tape, b.output, b.size, fun k hk _ => b.block k hk⟩
/-- Nothing is behind. -/
theorem Wk.clearB {w : World} {Wb : Nat} {sv lv bv nv bv0 : Value} {hp : Hp} {n : Nat} {L B sn : List Nat} {r : Nat} (h : Wk w Wb sv lv bv nv hp n L B sn r) (e : bv0.ownBlock = bv.ownBlock) (ho : ∀ w' : World, w'.ownsRow 0 3 1 bv B.length (B.map cellI) → w'.ownsRow 0 3 1 bv0 0 []) : Wk (w.setCell ⟨Wb, 2, none⟩ bv0) Wb sv lv bv0 nv hp n L [] sn r := by
  have gs := grown_set w ⟨Wb, 2, none⟩ bv0
  have k : ∀ {base : Nat} {e : TypeId} {size : Nat} {v : Value} {n : Nat} {xs : List Value}, w.ownsRow base e size v n xs → v.ownBlock ≠ some Wb → (w.setCell ⟨Wb, 2, none⟩ bv0).ownsRow base e size v n xs := fun o ho => kept_of o gs (fun j e => by cases e; exact ho)
  exact ⟨by simp [World.setCell, Array.getElem?_modify, h.lies], k h.live h.lW, ho _ (k h.beh h.bW), k h.seen h.nW, h.lW, by rw [e]; exact h.bW, h.nW, (fun j ej e2 => by rw [e] at e2; exact h.lb j ej e2), h.ln, by rw [e]; exact h.bn, h.hin.grown gs (fun j e => by cases e; exact h.ap.none (.inl rfl)), h.ap, by rw [e]; exact h.apb⟩
/-- Some more behind. -/
theorem Wk.pushB {w6 w7 : World} {Wb : Nat} {sv lv bv nv : Value} {hp : Hp} {n : Nat} {L B sn : List Nat} {r : Nat} {g7 cap7 : Nat} {xs : List Nat} (h : Wk w6 Wb sv lv bv nv hp n L B sn r)
    (hown : w7.ownsRow 0 3 1 (.slice (some ⟨g7, 0, none⟩) (B.length + xs.length) cap7) (B.length + xs.length) (B.map cellI ++ xs.map cellI)) (hg : w6.grownBy w7 bv.ownBlock) (hat : bv.ownBlock = some g7 ∨ g7 = w6.heap.size) :
    Wk (w7.setCell ⟨Wb, 2, none⟩ (.slice (some ⟨g7, 0, none⟩) (B.length + xs.length) cap7)) Wb sv lv (.slice (some ⟨g7, 0, none⟩) (B.length + xs.length) cap7) nv hp n L (B ++ xs) sn r ∧
      MGo (QO Wb lv bv nv) (QO Wb lv (.slice (some ⟨g7, 0, none⟩) (B.length + xs.length) cap7) nv) w6 (w7.setCell ⟨Wb, 2, none⟩ (.slice (some ⟨g7, 0, none⟩) (B.length + xs.length) cap7)) ∧
      w7.heap[Wb]? = some (.cells #[sv, lv, bv, nv, .int .i64 (r : Int)] 63 (0, 0)) := by
  have wl := (Array.getElem?_eq_some_iff.1 h.lies).1
  have gs := grown_set w7 ⟨Wb, 2, none⟩ (.slice (some ⟨g7, 0, none⟩) (B.length + xs.length) cap7)
  have L7 := grown_heap hg h.lies h.bW
  have gW : g7 ≠ Wb := by
    rcases hat with e | e
    · intro e2; subst e2; exact h.bW e
    · omega
  have gL : ∀ j, lv.ownBlock = some j → g7 ≠ j := by
    intro j ej e2
    subst e2
    rcases hat with e | e
    · exact h.lb _ ej e
    · have := (h.live.lt _ ej).2
      omega
  have gN : ∀ j, nv.ownBlock = some j → g7 ≠ j := by
    intro j ej e2
    subst e2
    rcases hat with e | e
    · exact h.bn _ e ej
    · have := (h.seen.lt _ ej).2
      omega
  have h7 : hp.In w7 := h.hin.grown hg (fun k e => h.apb k e)
  have h0 : hp g7 = none := by
    rcases hat with e | e
    · exact h.apb _ e
    · exact h.hin.free (by omega)
  refine ⟨⟨?_, ?_, ?_, ?_, h.lW, ?_, h.nW, ?_, h.ln, ?_, h7.grown gs (fun k e => by cases e; exact h.ap.none (.inl rfl)), h.ap, ?_⟩, ?_, L7⟩
  · simp [World.setCell, Array.getElem?_modify, L7]
  · exact kept_of (kept_of h.live hg (fun j e e2 => h.lb j e2 e)) gs (fun j e e2 => by cases e; exact h.lW e2)
  · rw [List.length_append, List.map_append]
    exact kept_of hown gs (fun j e e2 => by cases e; cases e2; exact gW rfl)
  · exact kept_of (kept_of h.seen hg (fun j e => h.bn j e)) gs (fun j e e2 => by cases e; exact h.nW e2)
  · intro e; cases e; exact gW rfl
  · intro j e e2; cases e2; exact gL _ e rfl
  · intro j e e2; cases e; exact gN _ e2 rfl
  · intro j e; cases e; exact h0
  · have m1 := ((MGo.refl (QO Wb lv bv nv) w6).grown hg (fun k e => .inl (.inr e))).grown gs (fun k e => by cases e; exact .inl (.inl (.inl rfl)))
    refine ⟨m1.os, m1.tape, m1.output, m1.size, m1.keep, fun k hk => ?_⟩
    rcases hk with hk | hk
    · exact .inl (.inl hk)
    · cases hk
      rcases hat with e | e
      · exact .inl (.inr e)
      · right; show w6.heap.size ≤ g7; omega
theorem over_take (T : List St) (c : Nat) (l : List Nat) (i : Nat) (h : i < l.length) {st : St} (hs : T[l[i]]? = some st) : overL T c (l.take (i + 1)) = overL T c (l.take i) ++ (if st.eats && st.has c then st.next else []) := by
  rw [List.take_succ_eq_append_getElem h]
  unfold overL
  rw [List.flatMap_append, List.flatMap_singleton, hs]
theorem Auto.grown {w w' : World} {Mb : Nat} {S : List St} {f : Nat} {hp : Hp} {sv : Value} {xs : List Value} (h : Auto w Mb S f hp sv xs) (hi : hp.In w') : Auto w' Mb S f hp sv xs := ⟨h.lies, h.row, h.elems, hi, h.shut, h.first, h.few⟩

set_option maxHeartbeats 8000000 in
theorem over_any (Mb Wb : Nat) (S : List St) (f : Nat) (sv lv bv nv : Value) (ys : List Value) (hp : Hp) (L B sn : List Nat) (r c : Nat) (w : World) (ha : Auto w Mb S f hp sv ys) (hw : Wk w Wb sv lv bv nv hp S.length L B sn r) (hr : r ≤ 800000) (hok : SeenOk S.length r L sn) :
    Calls Tryd.prog 29 #[.pointer (some ⟨Wb, 0, none⟩), .int .i32 (c : Int)] w fun e w' => e = .returned (.tuple #[]) ∧ ∃ lv' bv' L' B' sn', Wk w' Wb sv lv' bv' nv hp S.length L' B' sn' (r + 1) ∧ MGo (QO Wb lv bv nv) (QO Wb lv' bv' nv) w w' ∧ SeenOk S.length (r + 1) L' sn' ∧ ∀ q, q ∈ L' ↔ Eps S (overL S c L) q := by
  obtain ⟨bv0, sl1, sl2, ⟨sq, sk, sc, rfl⟩, sl4⟩ := slice_zero hw.beh
  obtain ⟨c0, c1, c2, c3, c4, cf⟩ := cells5_at hw.lies
  have few := ha.few
  have lf := hok.few
  have lll := hok.lt
  have hw1 := hw.clearB sl2 sl4
  obtain ⟨lq, ln, lc, el⟩ := own_shape hw.live
  obtain rfl : ln = L.length := by
    rcases hw.live.2 with ⟨e, e2⟩ | ⟨g, cap, cur, e, _⟩
    · rw [el] at e; cases e; exact e2.symm
    · rw [el] at e; cases e; rfl
  subst el
  have g1 : MGo (QO Wb (.slice lq L.length lc) bv nv) (QO Wb (.slice lq L.length lc) (.slice sq sk sc) nv) w (w.setCell ⟨Wb, 2, none⟩ (.slice sq sk sc)) := by
    have m := (MGo.refl (QO Wb (.slice lq L.length lc) bv nv) w).grown (grown_set w ⟨Wb, 2, none⟩ (.slice sq sk sc)) (fun k e => by cases e; exact .inl (.inl (.inl rfl)))
    refine ⟨m.os, m.tape, m.output, m.size, m.keep, fun k hk => ?_⟩
    rcases hk with hk | hk
    · exact .inl (.inl hk)
    · rw [sl2] at hk; exact .inl (.inr hk)
  have HW1 := hide hw1
  have G1 := hide g1
  have HA := hide ha
  have HOK := hide hok
  clear ha hw hw1 g1 hok sl4
  go_enter Tryd.func29, Tryd.ntmps29
  go_wp2_with fail
  go_loopw [20] (fun iv wr => ∃ (i : Nat) (bv' : Value) (B' : List Nat), i ≤ L.length ∧ iv = .int .i64 (i : Int) ∧ Wk wr Wb sv (.slice lq L.length lc) bv' nv hp S.length L B' sn r ∧ MGo (QO Wb (.slice lq L.length lc) bv nv) (QO Wb (.slice lq L.length lc) bv' nv) w wr ∧ B' = overL S c (L.take i) ∧ B'.length ≤ i) (fun iv _ => L.length - (intOf iv).toNat)
  case atStart => exact ⟨0, _, [], Nat.zero_le _, rfl, HW1.out, G1.out, rfl, Nat.le_refl _⟩
  case round =>
    obtain ⟨i, bv', B', hi, rfl, hk, go, hB, bl⟩ := hrel
    rename World => wr
    clear c0 c1 c2 c3 c4 cf
    obtain ⟨c0, c1, c2, c3, c4, cf⟩ := cells5_at hk.lies
    have HK := hide hk
    have GO := hide go
    have HB := hide hB
    by_cases hlt : i < L.length
    · obtain ⟨gl, cpl, el, _, _⟩ := hk.live.form (by omega)
      cases el
      have kl : wr.cell? ⟨gl, i, none⟩ = some (.int .i64 (L[i] : Int)) := by
        rw [hk.live.cellAt _ (by omega)]; simp [cellI, hlt]
      have qn := lll L[i] (List.getElem_mem hlt)
      obtain ⟨gst, cst, est, _, _, _, hcell⟩ := HA.out.row.form (by omega) hk.hin
      obtain ⟨d0, d1, d2, d3, b0, b1, b2, b3, sti⟩ := HA.out.elems L[i] S[L[i]] (List.getElem?_eq_getElem qn)
      obtain ⟨rfl, ⟨oth, sp, hsp, rfl, hsl, hhas⟩, nxi, n1⟩ := sti
      obtain ⟨spq, spn, spc, rfl⟩ := RowIn.shape hsp
      have k0 : wr.cell? ⟨gst, L[i] * 4, none⟩ = some (.bool S[L[i]].eats) := by rw [hcell _ (by omega), show L[i] * 4 = 4 * L[i] by omega]; exact b0
      have k1 : wr.cell? ⟨gst, L[i] * 4 + 1, none⟩ = some (.slice spq spn spc) := by rw [hcell _ (by omega), show L[i] * 4 + 1 = 4 * L[i] + 1 by omega]; exact b1
      have k2 : wr.cell? ⟨gst, L[i] * 4 + 2, none⟩ = some (.bool oth) := by rw [hcell _ (by omega), show L[i] * 4 + 2 = 4 * L[i] + 2 by omega]; exact b2
      have k3 : wr.cell? ⟨gst, L[i] * 4 + 3, none⟩ = some d3 := by rw [hcell _ (by omega), show L[i] * 4 + 3 = 4 * L[i] + 3 by omega]; exact b3
      have OT := hide (over_take S c L i hlt (List.getElem?_eq_getElem qn))
      have NX := hide nxi
      have HC := hide (has_any (.slice spq spn spc) oth sp c hp wr hsp hsl hk.hin)
      have HH := hide hhas
      have N1 := hide n1
      have z1 : (i : Int) < (L.length : Int) := by omega
      have z2 : (L.length : Int) ≤ 900000 := by omega
      have z3 : (L[i] : Int) < (S.length : Int) := by omega
      subst est
      clear hk go hB hcell b0 b1 b2 b3 nxi HW1 G1 hsp hsl hhas n1
      generalize hst : S[L[i]] = st at *
      clear hst
      generalize L[i] = q at *
      cases he : st.eats with
      | false =>
        rw [he] at k0
        have EQ : Hid (overL S c (L.take (i + 1)) = B') := by show _ = _; rw [OT.out, he, HB.out]; simp
        clear HC HH N1
        go_wp2_with fail
        go_roundw
        case rel => exact ⟨i + 1, bv', B', by omega, by go_num, HK.out, GO.out, EQ.out.symm, by omega⟩
        case measure => simp [intOf]; omega
      | true =>
        rw [he] at k0
        rw [HH.out he c] at HC
        cases hh : st.has c with
        | false =>
          rw [hh] at HC
          have EQ : Hid (overL S c (L.take (i + 1)) = B') := by show _ = _; rw [OT.out, he, hh, HB.out]; simp
          clear HH N1
          go_wp2_with fail
          refine HC.out.mono ?_
          rintro e w3 ⟨rfl, b3⟩
          go_wp2_with fail
          go_roundw
          case rel => exact ⟨i + 1, bv', B', by omega, by go_num, HK.out.grown (grown_below' b3 none) (fun _ e => by cases e), GO.out.grown (grown_below' b3 none) (fun _ e => by cases e), EQ.out.symm, by omega⟩
          case measure => simp [intOf]; omega
        | true =>
          rw [hh] at HC
          have EQ : Hid (overL S c (L.take (i + 1)) = B' ++ st.next) := by show _ = _; rw [OT.out, he, hh, HB.out]; simp
          obtain ⟨x, hx⟩ := List.length_eq_one_iff.1 (N1.out he)
          rw [hx] at NX EQ
          clear HH N1 hx
          go_wp2_with fail
          refine HC.out.mono ?_
          rintro e w3 ⟨rfl, b3⟩
          have HK3 := hide (HK.out.grown (grown_below' b3 none) (fun _ e => by cases e))
          have GO3 := hide (GO.out.grown (grown_below' b3 none) (fun _ e => by cases e))
          obtain ⟨gn, cn, en, _, _, _, ncell⟩ := NX.out.form (by show 0 < 1; omega) HK3.out.hin
          subst en
          have k33 : w3.cell? ⟨gst, q * 4 + 3, none⟩ = some (.slice (some ⟨gn, 0, none⟩) 1 cn) := (b3.cell (World.block_lt_of_cell? _ _ k3)).trans k3
          clear c0 c1 c2 c3 c4 cf k0 k1 k2 k3 kl HK GO HC b3
          obtain ⟨c0, c1, c2, c3, c4, cf⟩ := cells5_at HK3.out.lies
          have HK4 := hide (HK3.out.grown (grown_drew w3 none) (fun _ e => by cases e))
          have GO4 := hide (GO3.out.grown (grown_drew w3 none) (fun _ e => by cases e))
          have NC := hide ncell
          have OB := hide HK4.out.beh
          clear ncell
          go_wp2_with fail
          go_region_law (refine step_append_row rt_int w3.drew rfl _ _ rfl 0 bv' B'.length (B'.map cellI) (by simp [Act.eval]) OB.out gn 1 cn ([x].map cellI) (by simp [Act.eval]) (by simp) NC.out (cellI_one _) (by omega) (by omega) (by omega) (Nat.zero_le _) ?_; intro g7 cap7 w7 hown7 hgrow7 hat7 hlt7; obtain ⟨HK5, GO5, L7⟩ := HK4.out.pushB (xs := [x]) hown7 hgrow7 hat7; obtain ⟨v0, v1, v2, v3, v4, vf⟩ := cells5_at L7; replace HK5 := hide HK5; replace GO5 := hide GO5)
          all_goals
            go_wp2_with fail
            go_roundw
            case rel => exact ⟨i + 1, _, B' ++ [x], by omega, by go_num, HK5.out, GO4.out.trans GO5.out, EQ.out.symm, by rw [List.length_append, List.length_singleton]; omega⟩
            case measure => simp [intOf]; omega
    · obtain rfl : i = L.length := by omega
      have z1 : ¬ (L.length : Int) < (L.length : Int) := by omega
      rw [List.take_of_length_le (Nat.le_refl _)] at hB
      obtain ⟨h1, i1, q1, o1⟩ := RowIn.of hk.beh
      have ap1 : h1.Apart (QP Wb (.slice lq L.length lc) nv) := fun k o e hq => by
        have ob := o1 k o e
        rcases hq with rfl | hq | hq
        · exact hk.bW ob
        · exact hk.lb k hq ob
        · exact hk.bn k ob hq
      have lB : ∀ q ∈ B', q < S.length := by
        intro q hq
        rw [hB] at hq
        obtain ⟨q0, st, _, e1, _, _, e4⟩ := mem_overL.1 hq
        exact HA.out.shut st (List.mem_of_getElem? e1) q e4
      have HBG := hide (begin_any Mb Wb S f sv (.slice lq L.length lc) bv' nv ys hp L B' sn r bv' B' h1 wr (HA.out.grown hk.hin) hk hr q1 i1 ap1 lB HOK.out.len HOK.out.le)
      rw [hB] at HBG
      clear hk go hB i1 q1 o1 ap1 lB HW1 G1
      go_wp2_with fail
      refine HBG.out.mono ?_
      rintro e w3 ⟨rfl, lv', L', sn', k', go', ok', ep'⟩
      have K' := hide k'
      have GO' := hide go'
      have OK' := hide ok'
      have EP' := hide ep'
      clear k' go' ok' ep'
      go_wp2_with fail
      go_end0
      refine ⟨rfl, lv', bv', L', _, sn', K'.out, GO.out.trans ?_, OK'.out, EP'.out⟩
      have m := GO'.out
      refine ⟨m.os, m.tape, m.output, m.size, fun k hk hn => m.keep k hk (fun h => hn (.inl h)), fun k hk => ?_⟩
      rcases hk with hk | hk
      · rcases m.foot k hk with h | h
        · exact .inl (.inl h)
        · exact .inr h
      · exact .inl (.inr hk)

end Go.Proofs.YtncljgpcloanfaaDoor
namespace Go.Proofs.YtncljgpcloanfaaDoor
open Go.RowKit

set_option maxHeartbeats 4000000 in
theorem index_own (w : World) (v : Value) (L : List Nat) (x : Nat) (h : w.ownsRow 0 3 1 v L.length (L.map cellI)) (hl : L.length ≤ 900000) :
    Calls Tryd.prog 42 #[v, .int .i64 (x : Int)] w fun e w' => (∃ z : Int, e = .returned (.int .i64 z) ∧ (0 ≤ z ↔ x ∈ L)) ∧ w' = w := by
  obtain ⟨q, m, c, el⟩ := own_shape h
  obtain rfl : m = L.length := by
    rcases h.2 with ⟨e, e2⟩ | ⟨g, cap, cur, e, _⟩
    · rw [el] at e; cases e; exact e2.symm
    · rw [el] at e; cases e; rfl
  subst el
  have H := hide h
  clear h
  go_enter Tryd.func42, Tryd.ntmps42
  go_wp2_with fail
  go_loop [8] (fun iv => ∃ i : Nat, i ≤ L.length ∧ iv = .int .i64 (i : Int) ∧ ¬ x ∈ L.take i) (fun iv => L.length - (intOf iv).toNat)
  case atStart => exact ⟨0, Nat.zero_le _, rfl, by simp⟩
  case round =>
    obtain ⟨i, hi, rfl, hn⟩ := hrel
    by_cases hlt : i < L.length
    · obtain ⟨g, cp, e, _, _⟩ := H.out.form (by omega)
      cases e
      have k0 : w.cell? ⟨g, i, none⟩ = some (.int .i64 (L[i] : Int)) := by
        rw [H.out.cellAt _ (by omega)]; simp [cellI, hlt]
      have z1 : (i : Int) < (L.length : Int) := by omega
      have z2 : (L.length : Int) ≤ 900000 := by omega
      have TS := hide (take_step hlt)
      have HN := hide hn
      have GM := hide (List.getElem_mem hlt)
      clear hn
      generalize L[i] = y at *
      by_cases hxy : x = y
      · subst hxy
        have e1 : ((x : Int) == (x : Int)) = true := by simp
        go_wp2_with fail
        go_ret
        exact ⟨⟨_, rfl, ⟨fun _ => GM.out, fun _ => by omega⟩⟩, rfl⟩
      · have e1 : ((x : Int) == (y : Int)) = false := by rw [beq_eq_false_iff_ne]; omega
        go_wp2_with fail
        go_round
        case rel => exact ⟨i + 1, by omega, by go_num, by rw [TS.out, List.mem_append, List.mem_singleton]; exact fun e => e.elim HN.out hxy⟩
        case measure => simp [intOf]; omega
    · have z1 : ¬ (i : Int) < (L.length : Int) := by omega
      have HN := hide hn
      clear hn
      go_wp2_with fail
      go_ret
      refine ⟨⟨_, rfl, ⟨fun h => by omega, fun h => ?_⟩⟩, rfl⟩
      have := HN.out
      rw [List.take_of_length_le (by omega)] at this
      exact absurd h this
set_option maxHeartbeats 4000000 in
theorem contains_own (w : World) (v : Value) (L : List Nat) (x : Nat) (h : w.ownsRow 0 3 1 v L.length (L.map cellI)) (hl : L.length ≤ 900000) :
    Calls Tryd.prog 30 #[v, .int .i64 (x : Int)] w fun e w' => e = .returned (.bool (decide (x ∈ L))) ∧ w' = w := by
  have HI := hide (index_own w v L x h hl)
  clear h
  go_enter Tryd.func30, Tryd.ntmps30
  go_wp2_with fail
  refine HI.out.mono ?_
  rintro e w1 ⟨⟨z, rfl, hz⟩, hw⟩
  obtain rfl : w = w1 := hw.symm
  have HZ := hide hz
  clear hz hw
  go_wp2_with fail
  go_ret
  exact ⟨ret_bool (by rw [Bool.eq_iff_iff, decide_eq_true_eq, decide_eq_true_eq]; exact HZ.out), rfl⟩

end Go.Proofs.YtncljgpcloanfaaDoor
