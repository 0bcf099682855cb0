/- Escapes of texts, as lists of bytes. Entries told by a text and read again, as functions of lists. Stage 19's wakes and its laws, walked. -/
import Derived.Test.YtfedeiipinamjaaDoorJur12
import Derived.Test.YtfedeiipinamjaaDoorJur14
import Derived.Test.YtfedeiipinamjaaDoorJur17
import Derived.Test.YtfedeiipinamjaaDoorJur18
import Derived.Test.YtfedeiipinamjaaDoorJur20
import Derived.Test.YtfedeiipinamjaaDoorJur28
import Derived.Test.YtfedeiipinamjaaDoorJur31
import Derived.Test.YtfedeiipinamjaaDoorJur40

namespace Go.Proofs.YtfedeiipinamjaaDoor
open Go.RowKit
theorem two_digits (c : UInt8) : two (hexD (c.toNat / 16)) (hexD (c.toNat % 16)) = c := by
  have hc := c.toNat_lt
  have h1 := hexV_hexD ⟨c.toNat / 16, by omega⟩
  have h2 := hexV_hexD ⟨c.toNat % 16, by omega⟩
  unfold two
  simp only at h1 h2
  rw [h1, h2]
  have : (((c.toNat / 16 : Nat) : Int) * 16 + ((c.toNat % 16 : Nat) : Int)).toNat = c.toNat := by omega
  rw [this]; simp
theorem unform_form : ∀ l : List UInt8, decL (unplus (formL l)) = l
  | [] => rfl
  | c :: l => by
    have ih := unform_form l
    have hc := c.toNat_lt
    rw [formL_cons, unplus_append]
    by_cases e : c = 32
    · subst e
      show decL (32 :: unplus (formL l)) = _
      rw [decL_none (headE_ne _ (by decide)), ih]
    · have ef : formB c = encB 7 c := by unfold formB; rw [if_neg e]
      rw [ef]
      cases g : escB 7 c with
      | true =>
        have n1 := (hexD_ne ⟨c.toNat / 16, by omega⟩).2
        have n2 := (hexD_ne ⟨c.toNat % 16, by omega⟩).2
        have h1 := hexV_hexD ⟨c.toNat / 16, by omega⟩
        have h2 := hexV_hexD ⟨c.toNat % 16, by omega⟩
        simp only at n1 n2 h1 h2
        have et := two_digits c
        rw [encB_yes g]
        generalize hexD (c.toNat / 16) = a at *
        generalize hexD (c.toNat % 16) = b at *
        have : unplus [37, a, b] = [37, a, b] := by simp [unplus, n1, n2]
        rw [this]
        show decL (37 :: a :: b :: unplus (formL l)) = _
        rw [(decL_some (headE_yes _ (by omega) (by omega))).1, et]
        show c :: decL (unplus (formL l)) = _
        rw [ih]
      | false =>
        rw [encB_not g]
        have hne : c ≠ 37 := by intro e; subst e; rw [escB_form37] at g; cases g
        have hne2 : c ≠ 43 := by intro e; subst e; exact absurd g (by decide)
        have : unplus [c] = [c] := by simp [unplus, hne2]
        rw [this]
        show decL (c :: unplus (formL l)) = _
        rw [decL_none (headE_ne _ hne), ih]
end Go.Proofs.YtfedeiipinamjaaDoor

namespace Go.Proofs.YtfedeiipinamjaaDoor
open Go.RowKit
theorem unf_form (l : List UInt8) : unf (formL l) = l := unform_form l
theorem frm_38 : frmB 38 = false := by decide
theorem frm_61 : frmB 61 = false := by decide
theorem enc_free (e : En) : (38 : UInt8) ∉ encE e := by
  unfold encE
  rw [List.mem_append, List.mem_cons]
  rintro (h | h | h)
  · have := form_signs _ _ h; rw [frm_38] at this; cases this
  · cases h
  · have := form_signs _ _ h; rw [frm_38] at this; cases this
theorem enc_some (e : En) : someB (encE e) = true := by
  unfold someB encE
  cases formL e.name.data.toList <;> rfl
theorem take_eq {u k : List UInt8} (h : (61 : UInt8) ∉ u) : (u ++ 61 :: k).takeWhile notEq = u ∧ (u ++ 61 :: k).dropWhile notEq = 61 :: k := by
  induction u with
  | nil => exact ⟨rfl, rfl⟩
  | cons x u ih =>
    have hx : notEq x = true := by
      unfold notEq
      rw [bne_iff_ne]
      intro t
      exact h (by rw [t]; exact List.mem_cons_self)
    have ih := ih (fun t => h (List.mem_cons_of_mem _ t))
    constructor
    · rw [List.cons_append, List.takeWhile_cons_of_pos hx, ih.1]
    · rw [List.cons_append, List.dropWhile_cons_of_pos hx, ih.2]
theorem form_61 (l : List UInt8) : (61 : UInt8) ∉ formL l := fun h => by
  have := form_signs _ _ h; rw [frm_61] at this; cases this
theorem dec_encE (e : En) (hf : e.file = false) (h1 : e.fname = ⟨#[]⟩) (h2 : e.typ = ⟨#[]⟩) : decE (encE e) = e := by
  unfold decE encE
  obtain ⟨t1, t2⟩ := take_eq (k := formL e.val.data.toList) (form_61 e.name.data.toList)
  rw [t1, t2]
  show En.mk (txt (unf (formL e.name.data.toList))) (txt (unf (formL e.val.data.toList))) false ⟨#[]⟩ ⟨#[]⟩ = e
  rw [unf_form, unf_form]
  obtain ⟨a, b, c, d, f⟩ := e
  have hf : c = false := hf
  have h1 : d = ⟨#[]⟩ := h1
  have h2 : f = ⟨#[]⟩ := h2
  subst hf h1 h2
  rfl
theorem back_u (l : List En) : decU (encU l) = plainU l := by
  unfold decU encU
  by_cases h : l = []
  · subst h; rfl
  · have hne : (plainU l).map encE ≠ [] := by
      unfold plainU
      intro t
      rw [List.map_eq_nil_iff, List.map_eq_nil_iff] at t
      exact h t
    rw [split_join _ hne (by
      intro p hp
      obtain ⟨e, _, rfl⟩ := List.mem_map.1 hp
      exact enc_free e)]
    rw [List.filter_eq_self.2 (by
      intro p hp
      obtain ⟨e, _, rfl⟩ := List.mem_map.1 hp
      exact enc_some e)]
    rw [List.map_map]
    unfold plainU
    rw [List.map_map]
    apply List.map_congr_left
    intro e _
    exact dec_encE (plE e) rfl rfl rfl
end Go.Proofs.YtfedeiipinamjaaDoor

namespace Go.Proofs.YtfedeiipinamjaaDoor
open Go.RowKit
set_option maxRecDepth 100000
set_option maxHeartbeats 8000000 in
theorem urlencBack_walk (v : Value) (l : List En) (w : World) (hv : FilesV w v l) (hf : l.length ≤ 4398046511104) (hT : UrTabs w) :
    Calls Tryd.prog 5 #[v] w fun e w' => e = .returned (.bool true) ∧ Below w.heap.size w w' := by
  have FV := hide hv
  have HW := hide (urWakes_any w hT)
  have HLg := hide (fun W (hb : Below w.heap.size w W) => refLong_any v l W (FV.out.below hb) hf)
  cases lg : longU l with
  | true =>
    rw [lg] at HLg
    obtain ⟨p, c, rfl⟩ := files_formU hv
    clear hv hf hT lg FV
    go_enter Tryd.func5, Tryd.ntmps5
    go_wp2_with fail
    refine HW.out.mono ?_
    rintro e w1 ⟨rfl, b1⟩
    go_wp2_with fail
    refine (HLg.out _ b1).mono ?_
    rintro e w2 ⟨rfl, hu⟩
    obtain rfl : w1 = w2 := hu.symm
    go_wp2_with fail
    go_ret
    exact ⟨rfl, b1⟩
  | false =>
    obtain ⟨l60, hok⟩ := long_ok lg
    rw [lg] at HLg
    have HEn := hide (fun W (hb : Below w.heap.size w W) => urEncode_any 2000 v l W (FV.out.below hb) (by omega) hok (hT.below hb))
    have HRp := hide (fun W (hb : Below w.heap.size w W) => refPlain19_any 2000 v l W (FV.out.below hb) (by omega) hok)
    have HD := hide (fun W (hb : Below w.heap.size w W) => urDecode_any (urlS l) W (ur_size hok) (hT.below hb))
    rw [show decU (urlS l).data.toList = plainU l from back_u l] at HD
    have HSm := hide (fun a b W (ha : FilesV W a (plainU l)) (hb : FilesV W b (plainU l)) => refSameFiles_yes a b (plainU l) W ha hb (by rw [plain_n]; omega))
    obtain ⟨p, c, rfl⟩ := files_formU hv
    clear hv hf hT lg hok FV
    generalize plainU l = pl at *
    generalize urlS l = us at *
    go_enter Tryd.func5, Tryd.ntmps5
    go_wp2_with fail
    refine HW.out.mono ?_
    rintro e w1 ⟨rfl, b1⟩
    go_wp2_with fail
    refine (HLg.out _ b1).mono ?_
    rintro e w2 ⟨rfl, hu⟩
    obtain rfl : w1 = w2 := hu.symm
    go_wp2_with fail
    refine (HEn.out _ b1).mono ?_
    rintro e w3 ⟨rfl, b3⟩
    have B3 := hide (chain b1 b3)
    clear b1 b3
    go_wp2_with fail
    refine (HD.out _ B3.out).mono ?_
    rintro e w4 ⟨v4, rfl, f4, b4⟩
    have F4 := hide f4
    have B4 := hide (chain B3.out b4)
    obtain ⟨p4, c4, rfl⟩ := files_formU f4
    clear f4 b4 B3
    go_wp2_with fail
    refine (HRp.out _ B4.out).mono ?_
    rintro e w5 ⟨v5, rfl, f5, b5⟩
    have F5 := hide f5.files
    have B5 := hide (chain B4.out b5)
    replace F4 := hide (F4.out.below b5)
    obtain ⟨p5, c5, rfl⟩ := files_formU F5.out
    clear f5 b5 B4
    go_wp2_with fail
    refine (HSm.out _ _ _ F4.out F5.out).mono ?_
    rintro e w6 ⟨rfl, b6⟩
    go_wp2_with fail
    go_ret
    exact ⟨rfl, chain B5.out b6⟩

end Go.Proofs.YtfedeiipinamjaaDoor
