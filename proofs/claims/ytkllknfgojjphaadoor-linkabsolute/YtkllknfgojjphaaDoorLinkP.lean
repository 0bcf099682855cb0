/- The program's way of telling absolute addresses, as lists of bytes: it ends as the document's does; plain facts of no program. No condition. -/
import Derived.Lib.IndexMore
import Derived.Lib.LastIndexByte
import Derived.Test.YtkllknfgojjphaaDoorLink
import Derived.Test.YtkllknfgojjphaaDoorCuts
namespace Go.Proofs.YtkllknfgojjphaaDoor
open Go.RowKit

/-- The texts in which signs are looked for. -/
def letT : List UInt8 := [97, 98, 99, 100, 101, 102, 103, 104, 105, 106, 107, 108, 109, 110, 111, 112, 113, 114, 115, 116, 117, 118, 119, 120, 121, 122, 65, 66, 67, 68, 69, 70, 71, 72, 73, 74, 75, 76, 77, 78, 79, 80, 81, 82, 83, 84, 85, 86, 87, 88, 89, 90]
def digT : List UInt8 := [48, 49, 50, 51, 52, 53, 54, 55, 56, 57]
def hexT : List UInt8 := [97, 98, 99, 100, 101, 102, 65, 66, 67, 68, 69, 70]
def anyT (ts : List (List UInt8)) (c : UInt8) : Bool := ts.any fun t => hasB t c
def high (c : UInt8) : Bool := decide (127 < c.toNat)
theorem each_byte {p : UInt8 → Prop} (h : ∀ n : Fin 256, p (UInt8.ofNat n.val)) (c : UInt8) : p c := by
  have := h ⟨c.toNat, c.toNat_lt⟩
  simpa using this
theorem any_alpha (c : UInt8) : anyT [letT] c = alphaB c := each_byte (p := fun c => anyT [letT] c = alphaB c) (by decide +kernel) c
theorem any_dig (c : UInt8) : anyT [digT] c = isDg c := each_byte (p := fun c => anyT [digT] c = isDg c) (by decide +kernel) c
theorem any_sch (c : UInt8) : anyT [letT, digT, [43, 45, 46]] c = schC c := each_byte (p := fun c => anyT [letT, digT, [43, 45, 46]] c = schC c) (by decide +kernel) c
theorem any_sign (c : UInt8) : (high c || anyT [letT, digT, fineSg] c) = signC c := each_byte (p := fun c => (high c || anyT [letT, digT, fineSg] c) = signC c) (by decide +kernel) c
theorem any_name (c : UInt8) : (high c || anyT [letT, digT, [45, 95]] c) = nameC c := each_byte (p := fun c => (high c || anyT [letT, digT, [45, 95]] c) = nameC c) (by decide +kernel) c
theorem any_hex (c : UInt8) : anyT [digT, hexT] c = hexOk c := each_byte (p := fun c => anyT [digT, hexT] c = hexOk c) (by decide +kernel) c
theorem hex_sign (c : UInt8) : hexOk c = true → signC c = true := each_byte (p := fun c => hexOk c = true → signC c = true) (by decide +kernel) c
theorem hex_37 (c : UInt8) : hexOk c = true → c ≠ 37 := each_byte (p := fun c => hexOk c = true → c ≠ 37) (by decide +kernel) c
theorem hex_64 (c : UInt8) : hexOk c = true → c ≠ 64 := each_byte (p := fun c => hexOk c = true → c ≠ 64) (by decide +kernel) c
theorem sign_37 : signC 37 = false := by decide
theorem name_64 : nameC 64 = false := by decide
theorem name_58 : nameC 58 = false := by decide
theorem dg_93 : isDg 93 = false := by decide
theorem dg_64 : isDg 64 = false := by decide
def allT (ts : List (List UInt8)) (l : List UInt8) : Bool := l.all (anyT ts)
theorem all_dig (l : List UInt8) : allT [digT] l = l.all isDg := by unfold allT; congr 1; funext c; exact any_dig c
theorem all_sch (l : List UInt8) : allT [letT, digT, [43, 45, 46]] l = l.all schC := by unfold allT; congr 1; funext c; exact any_sch c
theorem all_hex (l : List UInt8) : allT [digT, hexT] l = l.all hexOk := by unfold allT; congr 1; funext c; exact any_hex c

/-- Fine texts, place by place. -/
def escL : List UInt8 → Bool
  | c :: a :: b :: _ => c == 37 && (hexOk a && hexOk b)
  | _ => false
def okAt (c : UInt8) (l : List UInt8) : Bool := signC c || escL l
def fineP : List UInt8 → Bool
  | [] => true
  | c :: l => okAt c (c :: l) && fineP l
theorem esc_no {c : UInt8} (l : List UInt8) (h : c ≠ 37) : escL (c :: l) = false := by
  have : (c == 37) = false := by simpa using h
  rcases l with _ | ⟨a, _ | ⟨b, t⟩⟩
  · rfl
  · rfl
  · show (c == 37 && _) = false; rw [this]; rfl
theorem fineP_is : ∀ (n : Nat) (l : List UInt8), l.length ≤ n → fineP l = fineB l
  | _, [], _ => rfl
  | 0, x :: l, h => by simp at h
  | n + 1, x :: l, h => by
    have ih := fineP_is n l (by simp at h; omega)
    by_cases e : x = 37
    · subst e
      match l, h, ih with
      | [], _, _ => rw [fineB_short (by simp)]; show ((signC 37 || false) && true) = false; rw [sign_37]; rfl
      | [a], _, _ => rw [fineB_short (by simp)]; show ((signC 37 || false) && _) = false; rw [sign_37]; rfl
      | a :: b :: t, h, ih =>
        have ih2 := fineP_is n t (by simp at h; omega)
        rw [fineB_hex]
        show ((signC 37 || ((37 : UInt8) == 37 && (hexOk a && hexOk b))) && (okAt a (a :: b :: t) && (okAt b (b :: t) && fineP t))) = _
        rw [sign_37, ih2, show ((37 : UInt8) == 37) = true from rfl, Bool.false_or, Bool.true_and]
        cases ha : hexOk a with
        | false => rfl
        | true =>
          cases hb : hexOk b with
          | false => rfl
          | true => unfold okAt; rw [hex_sign a ha, hex_sign b hb]; rfl
    · rw [fineB_sign l e]
      show (okAt x (x :: l) && fineP l) = _
      unfold okAt
      rw [esc_no l e, Bool.or_false, ih]
theorem fine_is (l : List UInt8) : fineL l = (Lib.validD l && fineP l) := by rw [fineP_is _ l (Nat.le_refl _)]; rfl
theorem fineP_bad : ∀ {l : List UInt8} {k : Nat} (hk : k < l.length), okAt l[k] (l.drop k) = false → fineP l = false
  | [], k, hk, _ => by cases hk
  | x :: l, 0, _, h => by
    show (okAt x (x :: l) && fineP l) = false
    have : okAt x (x :: l) = false := h
    rw [this]; rfl
  | x :: l, k + 1, hk, h => by
    have := fineP_bad (l := l) (k := k) (by simpa using hk) h
    show (okAt x (x :: l) && fineP l) = false
    rw [this, Bool.and_false]
theorem fineP_all : ∀ {l : List UInt8}, (∀ k (hk : k < l.length), okAt l[k] (l.drop k) = true) → fineP l = true
  | [], _ => rfl
  | x :: l, h => by
    have h0 : okAt x (x :: l) = true := h 0 (by simp)
    have := fineP_all (l := l) (fun k hk => h (k + 1) (by simpa using hk))
    show (okAt x (x :: l) && fineP l) = true
    rw [h0, this]; rfl

/-- Digits alone, or nothing, of a number that is at most 'most': left off at the first digit that is too much. -/
def upF (most : Nat) : Nat → List UInt8 → Bool
  | _, [] => true
  | n, c :: l => isDg c && (decide (10 * n + (c.toNat - 48) ≤ most) && upF most (10 * n + (c.toNat - 48)) l)
def upL (most : Nat) (l : List UInt8) : Bool := upF most 0 l
theorem val_le : ∀ (l : List UInt8) (n : Nat), n ≤ l.foldl valStep n
  | [], n => Nat.le_refl _
  | c :: l, n => by
    have h1 : n ≤ valStep n c := by unfold valStep; split <;> omega
    exact Nat.le_trans h1 (val_le l _)
theorem up_is {most : Nat} (hm : most < 1000000) : ∀ (l : List UInt8) (n : Nat), n ≤ most → upF most n l = (l.all isDg && decide (l.foldl valStep n ≤ most))
  | [], n, h => by show true = (true && decide (n ≤ most)); rw [decide_eq_true h]; rfl
  | c :: l, n, h => by
    have hv : valStep n c = 10 * n + (c.toNat - 48) := by unfold valStep; rw [if_pos (by omega)]
    show (isDg c && (decide (10 * n + (c.toNat - 48) ≤ most) && upF most (10 * n + (c.toNat - 48)) l)) = ((isDg c && l.all isDg) && decide (l.foldl valStep (valStep n c) ≤ most))
    rw [hv]
    by_cases g : 10 * n + (c.toNat - 48) ≤ most
    · rw [decide_eq_true g, up_is hm l _ g, Bool.true_and, Bool.and_assoc]
    · have := val_le l (10 * n + (c.toNat - 48))
      rw [decide_eq_false g, decide_eq_false (by omega)]; simp
theorem up_port (l : List UInt8) : upL 65535 l = portOk l := by
  unfold upL portOk digitsL valueL
  rw [up_is (by decide) l 0 (by omega)]
  cases l with
  | nil => rfl
  | cons => rfl
theorem up_oct {p : List UInt8} (h : p ≠ []) : (decide (p.length ≤ 3) && upL 255 p) = octOk p := by
  unfold upL octOk digitsL valueL
  rw [up_is (by decide) p 0 (by omega)]
  cases p with
  | nil => exact absurd rfl h
  | cons x p =>
    show _ = ((true && (x :: p).all isDg) && _)
    rw [Bool.true_and]
    ac_rfl

/-- A sign of ASCII between two texts: both are UTF-8, or the whole isn't. -/
theorem decodeN_cut {n b0 b1 b2 b3 n' b1' b2' b3' : Nat} (h0 : b0 < 256) (h1 : b1 < 256) (h2 : b2 < 256) (h3 : b3 < 256) (g1 : b1' < 256) (g2 : b2' < 256) (g3 : b3' < 256) (hn : 1 ≤ n)
    (e1 : 1 < n → b1' = b1) (e2 : 2 < n → b2' = b2) (e3 : 3 < n → b3' = b3) (f1 : n = 1 → b1' < 128) (f2 : n = 2 → b2' < 128) (f3 : n = 3 → b3' < 128) (bad : (Lib.decodeN n b0 b1 b2 b3).1 = 65533 ∧ (Lib.decodeN n b0 b1 b2 b3).2 = 1) :
    Lib.decodeN n' b0 b1' b2' b3' = (65533, 1) := by
  by_cases c1 : b0 < 128
  · unfold Lib.decodeN at bad; rw [if_pos c1] at bad; have := bad.1; simp at this; omega
  by_cases c2 : b0 < 194
  · exact Lib.decodeN_bad n' b0 b1' b2' b3' (.inl ⟨by omega, c2⟩)
  by_cases c3 : b0 < 224
  · rw [dec_two h1 ⟨by omega, c3⟩] at bad
    rw [dec_two g1 ⟨by omega, c3⟩]
    by_cases d : 1 < n ∧ 128 ≤ b1 ∧ b1 < 192
    · rw [if_pos d] at bad; have := bad.2; simp at this
    · rw [if_neg]; intro q
      by_cases k : 1 < n
      · rw [e1 k] at q; exact d ⟨k, q.2⟩
      · have := f1 (by omega); omega
  by_cases c4 : b0 < 240
  · rw [dec_three h1 h2 ⟨by omega, c4⟩] at bad
    rw [dec_three g1 g2 ⟨by omega, c4⟩]
    split at bad
    · have := bad.2; simp at this
    · rename_i d
      rw [if_neg]; rintro ⟨q1, q2, q3⟩
      by_cases k : 1 < n
      · have r1 := e1 k
        by_cases k2 : 2 < n
        · have r2 := e2 k2
          subst r1 r2
          exact d ⟨⟨k, q1.2⟩, ⟨k2, q2.2⟩, q3⟩
        · have := f2 (by omega); omega
      · have := f1 (by omega); omega
  by_cases c5 : b0 < 245
  · rw [dec_four h1 h2 h3 ⟨by omega, c5⟩] at bad
    rw [dec_four g1 g2 g3 ⟨by omega, c5⟩]
    split at bad
    · have := bad.2; simp at this
    · rename_i d
      rw [if_neg]; rintro ⟨q1, q2, q3, q4⟩
      by_cases k : 1 < n
      · have r1 := e1 k
        by_cases k2 : 2 < n
        · have r2 := e2 k2
          by_cases k3 : 3 < n
          · have r3 := e3 k3
            subst r1 r2 r3
            exact d ⟨⟨k, q1.2⟩, ⟨k2, q2.2⟩, ⟨k3, q3.2⟩, q4⟩
          · have := f3 (by omega); omega
        · have := f2 (by omega); omega
      · have := f1 (by omega); omega
  · exact Lib.decodeN_bad n' b0 b1' b2' b3' (.inr ⟨by omega, h0⟩)
theorem decodeL_cut {c : UInt8} (a b : List UInt8) (hne : a ≠ []) (hc : c.toNat < 128) (bad : (Lib.decodeL a).1 = 65533 ∧ (Lib.decodeL a).2 = 1) : Lib.decodeL (a ++ c :: b) = (65533, 1) := by
  rw [Lib.decodeL_N] at bad ⊢
  have hl : 0 < a.length := List.length_pos_iff.2 hne
  have hg : ∀ j, j < a.length → (a ++ c :: b).getD j 0 = a.getD j 0 := fun j hj => by simp [List.getD, List.getElem?_append_left hj]
  have hx : (a ++ c :: b).getD a.length 0 = c := by simp [List.getD]
  rw [hg 0 hl]
  exact decodeN_cut (UInt8.toNat_lt _) (UInt8.toNat_lt _) (UInt8.toNat_lt _) (UInt8.toNat_lt _) (UInt8.toNat_lt _) (UInt8.toNat_lt _) (UInt8.toNat_lt _) hl
    (fun h => by rw [hg 1 h]) (fun h => by rw [hg 2 h]) (fun h => by rw [hg 3 h])
    (fun h => by rw [h] at hx; rw [hx]; exact hc) (fun h => by rw [h] at hx; rw [hx]; exact hc) (fun h => by rw [h] at hx; rw [hx]; exact hc) bad
theorem valid_cut_bad {c : UInt8} (b : List UInt8) (hc : c.toNat < 128) : ∀ (n : Nat) (a : List UInt8), a.length ≤ n → Lib.validD a = false → Lib.validD (a ++ c :: b) = false
  | 0, a, h, hv => by
    have : a = [] := List.eq_nil_of_length_eq_zero (by omega)
    subst this; cases hv
  | n + 1, a, h, hv => by
    by_cases hne : a = []
    · subst hne; cases hv
    have hne2 : a ++ c :: b ≠ [] := by simp
    rw [Lib.validD_step _ hne2]
    rw [Lib.validD_step _ hne] at hv
    by_cases bad : (Lib.decodeL a).1 = 65533 ∧ (Lib.decodeL a).2 = 1
    · rw [decodeL_cut a b hne hc bad, if_pos ⟨rfl, rfl⟩]
    · rw [if_neg bad] at hv
      rw [decodeL_ext a (c :: b) hne bad, if_neg bad]
      have hw := Lib.decodeL_le a hne
      have hp := Lib.decodeL_width a
      rw [List.drop_append_of_le_length hw]
      exact valid_cut_bad b hc n _ (by rw [List.length_drop]; omega) hv
theorem valid_ascii {c : UInt8} (b : List UInt8) (hc : c.toNat < 128) : Lib.validD (c :: b) = Lib.validD b := by
  rw [Lib.validD_step _ (by simp), Lib.decodeL_N]
  have e : Lib.decodeN (c :: b).length ((c :: b).getD 0 0).toNat ((c :: b).getD 1 0).toNat ((c :: b).getD 2 0).toNat ((c :: b).getD 3 0).toNat = (c.toNat, 1) := by
    unfold Lib.decodeN; exact if_pos hc
  rw [e, if_neg (by intro q; have := q.1; simp at this; omega)]
  rfl
theorem valid_cut {c : UInt8} (a b : List UInt8) (hc : c.toNat < 128) : Lib.validD (a ++ c :: b) = (Lib.validD a && Lib.validD b) := by
  cases h : Lib.validD a with
  | true => rw [(joined_L (c :: b) _ a (Nat.le_refl _) h).2, valid_ascii b hc, Bool.true_and]
  | false => rw [valid_cut_bad b hc _ a (Nat.le_refl _) h]; rfl
theorem valid_split {c : UInt8} (hc : c.toNat < 128) : ∀ (n : Nat) (l : List UInt8), l.length ≤ n → Lib.validD l = (splitL c l).all Lib.validD
  | 0, l, h => by
    have : l = [] := List.eq_nil_of_length_eq_zero (by omega)
    subst this; rfl
  | n + 1, l, h => by
    rcases first_cases c l with m | ⟨a, b, rfl, ha⟩
    · rw [split_alone m]; simp
    · rw [valid_cut a b hc, split_sign b ha, List.all_cons, valid_split hc n b (by rw [List.length_append, List.length_cons] at h; omega)]

end Go.Proofs.YtkllknfgojjphaaDoor
