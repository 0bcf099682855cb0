/- The wrap of a row that lists variables, for a contract that wants the world's shape and the form's reach besides. -/
import Derived.Test.YtnojgejcmaajmaaDoorRows
import Derived.Handed
import Derived.Shelf.Vars

namespace Go.Proofs.YtnojgejcmaajmaaDoor
open Go
set_option maxRecDepth 100000
theorem handed_both {H : Type} {enc : TypeId × Value → H} {C : Checked} {os : Os} {f : FuncId} {fn : Func} {s : ChangeSpec} {conds : List PathCond} {X : World → Array Value → Prop}
    (hX : ∀ (u v : World) (xs : Array Value), u.heap = v.heap → X u xs → X v xs) (own : ownKnob C.prog.godebug = none) (started : os.Started) (noInit : C.prog.inits.idxOf? f = none) (hfn : C.prog.funcs[f]? = some fn)
    (seen : ∃ (w : World) (tape : Tape) (i : Input), w.os = os ∧ (w.forCall tape i).Shaped C.prog ∧ i.vars = [] ∧ Input.okWide C.prog (w.forCall tape i) .any w.heap.size f i ∧
      ((s.pre enc C.prog fn conds false (w.forCall tape i).memory i.args ∧ X (w.forCall tape i).memory i.args) ∧ sizedMet enc C.prog fn (OpenSpec.ofChange s) false (w.forCall tape i).memory i.args) ∧ ({} : Assume).holds C.prog (lone (Frame.enter C.prog f i.args .normal) [] (w.forCall tape i)))
    (call : ∀ (W : World) (base : Nat) (xs : Array Value) (ds gs : List (DataW H)) (before : List MemPlace),
      (∀ (j : Nat) t v, fn.params[j]? = some t → xs[j]? = some v → Value.okWide C.prog W .any base t v) → DataW.Whole enc C.prog fn.params.toList s.vars false W xs.toList ds gs before → (DataW.weightsEach C.prog (fn.params.toList ++ s.plain.varTypes C.prog) (ds ++ gs)).all (· ≤ reachBytes) = true → X W xs → W.ShapedOpen C.prog →
      Calls C.prog f xs W fun e W' => ∃ v, e = .returned v ∧ s.post enc C.prog fn false true false false W xs v W') :
    ReturnsInHanded {} C os f .any (fun w xs => (s.pre enc C.prog fn conds false w xs ∧ X w xs) ∧ sizedMet enc C.prog fn (OpenSpec.ofChange s) false w xs) (s.post enc C.prog fn false true false false) := by
  refine returnsInHanded_of_calls own started noInit seen fun w tape i _ shape _ ok pre _ => ?_
  obtain ⟨_, _, _, fn2, found, _, _, _, _, vals⟩ := ok
  cases (found.symm.trans hfn : some fn2 = some fn)
  obtain ⟨⟨⟨ds, gs, before, whole, _⟩, laid⟩, hz⟩ := pre
  have whole2 := DataW.Whole.of_heap (w' := w.forCall tape i) (by rfl) whole
  refine (call (w.forCall tape i) w.heap.size i.args ds gs before vals whole2 (hz.weights whole) (hX _ _ _ (by rfl) laid) shape).mono ?_
  rintro e W' ⟨v, rfl, post⟩
  exact ChangeSpec.post_blind post
theorem reach_first {H : Type} {P : Program} {t : TypeId} {ts : List TypeId} {d : DataW H} {ds : List (DataW H)} (h : (DataW.weightsEach P (t :: ts) (d :: ds)).all (· ≤ reachBytes) = true) : (d.weights P t).all (· ≤ reachBytes) = true := by
  simp only [DataW.weightsEach, List.all_append, Bool.and_eq_true] at h
  exact h.1

end Go.Proofs.YtnojgejcmaajmaaDoor
