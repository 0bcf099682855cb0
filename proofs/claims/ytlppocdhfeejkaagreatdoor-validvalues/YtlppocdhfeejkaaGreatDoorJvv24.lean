/- The document's Default of layer 16. One to four digits as a number. -/
import Derived.Test.YtlppocdhfeejkaaGreatDoorJvv3
import Derived.Deep.AppendLies
import Derived.Maps.AppendAt
import Derived.Laws.OwnMore
import Derived.OwnWalk
import Derived.Shelf.Strconv.Clone
import Derived.Deep.MidRow
import Derived.Deep.DeepCutAuto

namespace Go.Proofs.YtlppocdhfeejkaaGreatDoor
open Go.RowKit
set_option maxRecDepth 100000
theorem find_noW {p : Int → Bool} {xs : List Int} {k : Nat} (h : k < xs.length) (hp : p xs[k] = false) : (xs.drop k).find? p = (xs.drop (k + 1)).find? p := by
  rw [List.drop_eq_getElem_cons h, List.find?_cons_of_neg (by rw [hp]; decide)]
theorem find_yesW {p : Int → Bool} {xs : List Int} {k : Nat} (h : k < xs.length) (hp : p xs[k] = true) : (xs.drop k).find? p = some xs[k] := by
  rw [List.drop_eq_getElem_cons h, List.find?_cons_of_pos hp]
end Go.Proofs.YtlppocdhfeejkaaGreatDoor

namespace Go.Proofs.YtlppocdhfeejkaaGreatDoor
open Go.RowKit
theorem size_text {l : List Nd} (h : Right l) : ∀ (ks : List Int) (s : ByteArray), (∀ c ∈ ks, 0 ≤ c ∧ c < (l.length : Int)) → (textF l s ks).size ≤ s.size + 4000 * ks.length
  | [], s, _ => by show s.size ≤ _; omega
  | c :: t, s, hc => by
    have h1 := hc c (List.mem_cons_self ..)
    have := size_text h t (s ++ (nd l c.toNat).text) (fun x hx => hc x (List.mem_cons_of_mem _ hx))
    have h2 := text_small h (i := c.toNat) (by omega)
    rw [ByteArray.size_append] at this
    show (textF l (s ++ (nd l c.toNat).text) t).size ≤ _
    rw [List.length_cons]; omega
theorem textP_small {l : List Nd} (h : Right l) {m : Nat} (hm : m < l.length) : (textP l (m : Int)).size ≤ 1604000 := by
  have h1 := size_text h (nd l m).kids (nd l m).text (fun c hc => by have := h.kid m hm c hc; exact ⟨this.1, this.2.1⟩)
  have h2 := text_small h hm
  have h3 := kids_few h hm
  unfold textP
  rw [Int.toNat_natCast]; omega

end Go.Proofs.YtlppocdhfeejkaaGreatDoor
