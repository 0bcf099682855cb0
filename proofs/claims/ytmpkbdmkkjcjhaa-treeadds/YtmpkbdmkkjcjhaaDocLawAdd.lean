/- TreeAdds walked. Conditions: a document as it lies in the world; rows of at most 2^47 bytes. -/
import Derived.Test.YtmpkbdmkkjcjhaaDocS9
import Derived.Test.YtmpkbdmkkjcjhaaDocAddE
import Derived.Test.YtmpkbdmkkjcjhaaDocAddR
import Derived.Test.YtmpkbdmkkjcjhaaDocR6
import Derived.Test.YtmpkbdmkkjcjhaaDocZ
namespace Go.Proofs.Ytmpkbdmkkjcjhaa
open Go.RowKit

/-- What is refused. -/
def AddNo (f : Nat) (l : List Nd) (name text : ByteArray) (z : Int) : Prop := ∀ v w, NodesV w v l → Calls Try.prog f #[v, .string name, .string text] w fun e w' => e = .returned (.tuple #[.slice none 0 0, .int .i64 0, .int .i64 z]) ∧ Below w.heap.size w w'
theorem add_all (l : List Nd) (name text : ByteArray) (hz : DocSz l) (hs : name.size ≤ maxLen) : (Right l ∧ l.length < 400 ∧ AddOk name text) ∨ ∃ z : Int, ¬ z = 0 ∧ AddNo 13 l name text z ∧ AddNo 14 l name text z := by
  cases hR : rightB l with
  | false => exact .inr ⟨4, by decide, fun v w hv => add_wrong v l name text w hv hz hs hR, fun v w hv => refAdd_wrong v l name text w hv hz hs hR⟩
  | true =>
    have hR := right_is.1 hR
    cases h1 : noName name with
    | true =>
      rcases Nat.lt_or_ge 4000 text.size with t | t
      · exact .inr ⟨2, by decide, fun v w hv => add_range_t v l name text w hv hz hs hR t h1, fun v w hv => refAdd_range_t v l name text w hv hz hs hR t h1⟩
      rcases Nat.lt_or_ge l.length 400 with q | q
      · exact .inl ⟨hR, q, .inl ⟨h1, t⟩⟩
      · exact .inr ⟨6, by decide, fun v w hv => add_full_t v l name text w hv hz hs hR q h1 t, fun v w hv => refAdd_full_t v l name text w hv hz hs hR q h1 t⟩
    | false =>
      cases h2 : nameOk name with
      | false => exact .inr ⟨7, by decide, fun v w hv => add_name v l name text w hv hz hs hR h1 h2, fun v w hv => refAdd_name v l name text w hv hz hs hR h1 h2⟩
      | true =>
        rcases Nat.lt_or_ge 4000 text.size with t | t
        · exact .inr ⟨2, by decide, fun v w hv => add_range_u v l name text w hv hz hs hR t h1 h2, fun v w hv => refAdd_range_u v l name text w hv hz hs hR t h1 h2⟩
        cases h3 : noName text with
        | false => exact .inr ⟨2, by decide, fun v w hv => add_range_b v l name text w hv hz hs hR t h1 h2 h3, fun v w hv => refAdd_range_b v l name text w hv hz hs hR t h1 h2 h3⟩
        | true =>
          rcases Nat.lt_or_ge l.length 400 with q | q
          · exact .inl ⟨hR, q, .inr ⟨h1, h2, h3⟩⟩
          · exact .inr ⟨6, by decide, fun v w hv => add_full_b v l name text w hv hz hs hR q h1 h2 h3, fun v w hv => refAdd_full_b v l name text w hv hz hs hR q h1 h2 h3⟩

set_option maxHeartbeats 8000000 in
set_option maxRecDepth 100000 in
theorem treeAdds_walk (v : Value) (l : List Nd) (w : World) (hv : NodesV w v l) (hz : DocSz l) (name : ByteArray) (hs : name.size ≤ maxLen) (text : ByteArray) (_ht : text.size ≤ maxLen) :
    Calls Try.prog 4 #[v, .string name, .string text] w fun e w' => e = .returned (.bool true) ∧ Below w.heap.size w w' := by
  have HW := hide wakes_any
  have HC := hide (refCopied_any v l w hv hz)
  have HV := hide hv
  have HS := hide (fun va vb x W (ha : NodesV W va x) (hb : NodesV W vb x) (hx : DocSz x) => refSame_yes va vb x W ha hb hx)
  have HZ := hide hz
  rcases add_all l name text hz hs with ⟨hR, hl, ha⟩ | ⟨z, h0, HP, HR⟩
  · have HP := hide (fun v' W (hn : NodesV W v' l) => add_ok v' l name text W hn hz hs hR hl ha)
    have HR := hide (fun W (hn : NodesV W v l) => refAdd_ok v l name text W hn hz hs hR hl ha)
    have R2 := right_addOk hR hl ha
    have Z2 := hide (right_sz R2)
    have HT := hide (fun v' W (hn : NodesV W v' (addP l name text)) => right_any v' (addP l name text) W hn Z2.out)
    rw [right_is.2 R2] at HT
    generalize addP l name text = l2 at *
    clear hv hz hR hl ha R2
    go_enter Try.func4, Try.ntmps4
    go_wp2_with fail
    refine HC.out.mono ?_
    rintro e w1 ⟨v1, L1, rfl, o1, hl1, b1⟩
    have N1 : Hid (NodesV w1 v1 l) := by have := o1.nodes; rw [hl1] at this; exact this
    clear o1 hl1 HC
    go_wp2_with fail
    refine (HP.out _ _ N1.out).mono ?_
    rintro e w2 ⟨v2, rfl, n2, b2⟩
    have B2 := hide (chain b1 b2)
    clear HP
    go_wp2_with fail
    refine (HR.out _ (HV.out.below B2.out)).mono ?_
    rintro e w3 ⟨v3, rfl, n3, b3⟩
    have B3 := hide (chain B2.out b3)
    clear HR
    go_wp2_with fail
    refine (HW.out _).mono ?_
    rintro e w4 ⟨rfl, b4⟩
    have B4 := hide (chain B3.out b4)
    have M1 : Hid (NodesV w4 v1 l) := ((N1.out.below b2).below b3).below b4
    have M2 : Hid (NodesV w4 v2 l2) := (n2.below b3).below b4
    have M3 : Hid (NodesV w4 v3 l2) := n3.below b4
    have M0 : Hid (NodesV w4 v l) := HV.out.below B4.out
    clear b1 b2 b3 b4 B2 B3 N1 n2 n3 HV HW
    go_wp2_with fail
    refine (HS.out _ _ l2 _ M2.out M3.out Z2.out).mono ?_
    rintro e w5 ⟨rfl, m5, hw5⟩
    have B5 : Hid (Below w4.heap.size w4 w5) := by rw [hw5]; exact bel_drewN (Below.refl _ _) _
    clear hw5
    go_wp2_with fail
    refine (HS.out _ _ l _ (M1.out.below B5.out) (M0.out.below B5.out) HZ.out).mono ?_
    rintro e w6 ⟨rfl, m6, hw6⟩
    have B6 : Hid (Below w4.heap.size w4 w6) := by rw [hw6]; exact bel_drewN B5.out _
    clear hw6
    go_wp2_with fail
    refine (HT.out _ _ (M2.out.below B6.out)).mono ?_
    rintro e w7 ⟨rfl, b7⟩
    go_wp2_with fail
    go_ret
    exact ⟨rfl, chain (chain B4.out B6.out) b7⟩
  · have HP := hide HP
    have HR := hide HR
    have f0 : (z == 0) = false := by rw [beq_eq_false_iff_ne]; exact h0
    clear hv hz
    go_enter Try.func4, Try.ntmps4
    go_wp2_with fail
    refine HC.out.mono ?_
    rintro e w1 ⟨v1, L1, rfl, o1, hl1, b1⟩
    have N1 : Hid (NodesV w1 v1 l) := by have := o1.nodes; rw [hl1] at this; exact this
    clear o1 hl1 HC
    go_wp2_with fail
    refine (HP.out _ _ N1.out).mono ?_
    rintro e w2 ⟨rfl, b2⟩
    have B2 := hide (chain b1 b2)
    clear HP
    go_wp2_with fail
    refine (HR.out _ _ (HV.out.below B2.out)).mono ?_
    rintro e w3 ⟨rfl, b3⟩
    have B3 := hide (chain B2.out b3)
    clear HR
    go_wp2_with fail
    refine (HW.out _).mono ?_
    rintro e w4 ⟨rfl, b4⟩
    have B4 := hide (chain B3.out b4)
    have M1 : Hid (NodesV w4 v1 l) := ((N1.out.below b2).below b3).below b4
    have M0 : Hid (NodesV w4 v l) := HV.out.below B4.out
    clear b1 b2 b3 b4 B2 B3 N1 HV HW
    go_wp2_with fail
    refine (HS.out _ _ [] _ (nodes_nil _) (nodes_nil _) nil_sz).mono ?_
    rintro e w5 ⟨rfl, m5, hw5⟩
    have B5 : Hid (Below w4.heap.size w4 w5) := by rw [hw5]; exact bel_drewN (Below.refl _ _) _
    clear hw5
    go_wp2_with fail
    refine (HS.out _ _ l _ (M1.out.below B5.out) (M0.out.below B5.out) HZ.out).mono ?_
    rintro e w6 ⟨rfl, m6, hw6⟩
    have B6 : Hid (Below w4.heap.size w4 w6) := by rw [hw6]; exact bel_drewN B5.out _
    clear hw6
    go_wp2_with fail
    go_ret
    exact ⟨rfl, chain B4.out B6.out⟩

end Go.Proofs.Ytmpkbdmkkjcjhaa
