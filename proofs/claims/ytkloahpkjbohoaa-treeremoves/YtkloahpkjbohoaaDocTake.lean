/- The program's takeOut of layer 10: a node is taken out of an own document: 'remP'. Conditions: rows of at most 2^47 bytes. -/
import Derived.Test.YtkloahpkjbohoaaDocV
import Derived.Test.YtkloahpkjbohoaaDocDel
import Derived.Test.YtkloahpkjbohoaaDocJ
namespace Go.Proofs.Ytkloahpkjbohoaa
open Go.RowKit

set_option maxHeartbeats 1000000 in
theorem takeOut1_any (c : Int) (B : Nat) (x : Int) (W : World) (hc : W.cell? ⟨B, 0, none⟩ = some (.int .i64 c)) :
    Calls Try.prog 70 #[.int .i64 x, .pointer (some ⟨B, 0, none⟩)] W fun e w' => e = .returned (.bool (x == c)) ∧ Below W.heap.size W w' := by
  go_enter Try.func70, Try.ntmps70
  go_wp2_with fail
  go_ret
  exact ⟨rfl, Below.refl _ _⟩
theorem takeOut_predX (c : Int) (w : World) (S : List Nat) (hS : w.heap.size ∉ S) : PredX 70 #[.pointer (some ⟨w.heap.size, 0, none⟩)] (Value.int .i64) (· == c) S (w.alloc (.cells #[.int .i64 c] 3)) := fun W x hc =>
  takeOut1_any c w.heap.size x W (hc.cell ((NB.new w [.int .i64 c] 3).cell 0 rfl) hS)
theorem entersTake : ∀ args w, (callFunc 70 args).run Try.prog w = .ok (.enter 70 args) w := Go.Proofs.enters_of Try.func70 (by kernel_rfl) rfl
theorem rem_root {l : List Nd} {c : Nat} (hc : c < l.length) (hp : (nd l c).parent = -1) : remP l c = l := by
  unfold remP cutK
  rw [if_pos (by omega)]
  unfold upd
  rw [nd_at hc] at hp
  rw [nd_at hc]
  have : (⟨l[c].name, l[c].text, l[c].attrs, -1, l[c].kids⟩ : Nd) = l[c] := by rw [← hp]
  show l.set c ⟨l[c].name, l[c].text, l[c].attrs, -1, l[c].kids⟩ = l
  rw [this, List.set_getElem_self]

set_option maxHeartbeats 4000000 in
set_option maxRecDepth 100000 in
theorem takeOut_any (base : Nat) (v : Value) (L : List NdV) (c : Nat) (w : World) (h : OwnD base w v L) (hb : base ≤ w.heap.size) (hc : c < L.length) (hR : Right (ndsOf L)) :
    Calls Try.prog 51 #[v, .int .i64 (c : Int)] w fun e w' => ∃ L', e = .returned (.tuple #[]) ∧ OwnD base w' v L' ∧ ndsOf L' = remP (ndsOf L) c ∧ Below base w w' := by
  have hlen : L.length ≤ 400 := by have := hR.len.2; rwa [ndsOf_len] at this
  have C0 : Hid (Chg [] w (w.alloc (.cells #[.int .i64 (c : Int)] 3))) := Chg.alloc _ _
  have O0 : Hid (OwnD base (w.alloc (.cells #[.int .i64 (c : Int)] 3)) v L) := h.kept C0.out (fun _ q => by cases q)
  have N0 := hide (NB.new w [.int .i64 (c : Int)] 3)
  obtain ⟨G, cp, ev, eb, g0, g1, _⟩ := owns_at h.row (by omega)
  have EB := hide eb
  have nG : G ≠ w.heap.size := by omega
  have c3 := (O0.out.nodeAt eb hc).parent
  have kb := N0.out.cell 0 rfl
  have j0 : (0 : Int) ≤ (c : Int) := by omega
  have j1 : (c : Int) < (L.length : Int) := by omega
  have hcN : c < (ndsOf L).length := by rw [ndsOf_len]; exact hc
  have PE : Hid (nd (ndsOf L) c = L[c].n) := ndsOf_at hc
  by_cases hp : L[c].n.parent = -1
  · rw [hp] at c3
    have E : Hid (remP (ndsOf L) c = ndsOf L) := rem_root hcN (by rw [PE.out]; exact hp)
    subst ev
    clear h eb hp hR
    go_enter Try.func51, Try.ntmps51
    go_wp2_with fail
    refine bodyPost_ret (results_none rfl _ _ _) rfl ?_
    exact ⟨L, rfl, O0.out, E.out.symm, C0.out.below hb (fun _ q => by cases q)⟩
  · have pr := hR.par c hcN
    rw [PE.out] at pr
    rw [ndsOf_len] at pr
    obtain ⟨p, hpp⟩ : ∃ p : Nat, L[c].n.parent = (p : Int) := ⟨L[c].n.parent.toNat, by have := pr.1; omega⟩
    have hpL : p < L.length := by have := pr.2; omega
    have pne : ¬ p = c := par_ne hR hcN (by rw [PE.out]; exact hpp)
    have c4 := (O0.out.nodeAt eb hpL).kids
    have KO : Hid (KidsO base (w.alloc (.cells #[.int .i64 (c : Int)] 3)) L[p].k L[p].n.kids) := O0.out.ks L[p] (List.getElem_mem hpL)
    have nS : Hid (w.heap.size ∉ L[p].k.ownBlock.toList) := fun q => by
      have := (World.ownsRow.lt (h.ks L[p] (List.getElem_mem hpL)) _ (opt_mem.1 q)).2
      exact Nat.lt_irrefl _ this
    have kl : L[p].n.kids.length ≤ 17592186044416 := by
      have := (right_texts hR (i := p) (by rw [ndsOf_len]; exact hpL)).2.2.2.2
      rw [ndsOf_get] at this
      omega
    have HD := hide (deleteFuncI_any base L[p].k L[p].n.kids (· == (c : Int)) 70 #[.pointer (some ⟨w.heap.size, 0, none⟩)] entersTake _ KO.out (takeOut_predX (c : Int) w _ nS.out) kl)
    have nGk : Hid (G ∉ L[p].k.ownBlock.toList) := fun t => own_ne h hpL eb (List.mem_append_right _ t)
    have p0 : (0 : Int) ≤ (p : Int) := by omega
    have p1 : (p : Int) < (L.length : Int) := by omega
    have p2 : ((p : Int) == -1) = false := by rw [beq_eq_false_iff_ne]; omega
    have ne1 : ¬ c * 5 + 3 = p * 5 + 4 := by omega
    have ne2 : ¬ p * 5 + 4 = c * 5 + 3 := by omega
    have HP := hide hpp
    rw [hpp] at c3
    subst ev
    clear h eb hp hR pr hpp
    go_enter Try.func51, Try.ntmps51
    go_wp2_with fail
    refine HD.out.mono ?_
    rintro e w6 ⟨q6, n6, c6, rfl, o6, ch6, bl6⟩
    have k4 := ch6.cell c4 nGk.out
    have k3 := ch6.cell c3 nGk.out
    have kbb := ch6.cell kb nS.out
    have RW := hide (owns_kept O0.out.row ch6 (fun k hk q => nGk.out (by have e : G = k := Option.some.inj (EB.out.symm.trans hk); rw [e]; exact q)))
    have f4 := owns_free RW.out EB.out (p * 5 + 4)
    have f3 := owns_free RW.out EB.out (c * 5 + 3)
    have O6 := hide o6
    have CH := hide ch6
    have BL := hide bl6
    clear o6 ch6 bl6 HD c3 c4 kb
    go_wp2_with fail
    go_end0
    have D1 := OwnD.putK O0.out EB.out hpL CH.out O6.out (.inl BL.out)
    have hc2 : c < (L.set p ⟨{ L[p].n with kids := L[p].n.kids.filter fun x => !(x == (c : Int)) }, L[p].a, .slice q6 n6 c6⟩).length := by rw [List.length_set]; exact hc
    have D2 := OwnD.putP D1 EB.out hc2 (-1)
    refine ⟨_, rfl, D2, ?_, ?_⟩
    · have F : (L[p].n.kids.filter fun x => !(x == (c : Int))) = L[p].n.kids.filter fun x => decide (x ≠ (c : Int)) := by
        congr 1
        funext x
        by_cases q : x = (c : Int)
        · simp [q]
        · simp [q]
      have X : (L.set p ⟨{ L[p].n with kids := L[p].n.kids.filter fun x => !(x == (c : Int)) }, L[p].a, .slice q6 n6 c6⟩)[c] = L[c] := List.getElem_set_ne pne _
      rw [ndsOf_set, ndsOf_set, X, F]
      unfold remP cutK
      rw [PE.out, HP.out, if_neg (by omega), Int.toNat_natCast]
      unfold upd
      rw [ndsOf_at hpL]
      congr 1
      have Y : nd ((ndsOf L).set p { L[p].n with kids := L[p].n.kids.filter fun x => decide (x ≠ (c : Int)) }) c = L[c].n := by
        rw [nd_at (by rw [List.length_set]; exact hcN), List.getElem_set_ne pne, ndsOf_get]
      rw [Y]
    · have S1 : ∀ k ∈ L[p].k.ownBlock.toList, base ≤ k := fun k q => (World.ownsRow.lt KO.out k (opt_mem.1 q)).1
      have CC : Chg (G :: L[p].k.ownBlock.toList) (w.alloc (.cells #[.int .i64 (c : Int)] 3)) w6 := CH.out.mono (fun k q _ => List.mem_cons_of_mem _ q)
      have CG : ∀ (W : World) (j : Nat) (u : Value), Chg (G :: L[p].k.ownBlock.toList) W (W.setCell ⟨G, j, none⟩ u) := fun W j u => (Chg.setB W G j u).mono (fun k q _ => by rw [List.mem_singleton.1 q]; exact List.mem_cons_self ..)
      refine Chg.below (((C0.out.nil.trans CC).trans (CG _ _ _)).trans (CG _ _ _)) hb (fun k q => ?_)
      rcases List.mem_cons.1 q with t | t
      · rw [t]; exact g0
      · exact S1 k t

end Go.Proofs.Ytkloahpkjbohoaa
