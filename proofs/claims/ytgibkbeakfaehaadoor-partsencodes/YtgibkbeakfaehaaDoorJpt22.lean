/- Entries told as parts, and parts read, as functions of lists. Texts searched, cut, split and replaced, in the words of parts. The program's quote, unquote and part of layer 20. -/
import Derived.Test.YtgibkbeakfaehaaDoorJpt9

namespace Go.Proofs.YtgibkbeakfaehaaDoor
open Go.RowKit
def escU (c a b : UInt8) : Option UInt8 := if c = 37 ∧ a = 48 ∧ b = 65 then some 10 else if c = 37 ∧ a = 48 ∧ b = 68 then some 13 else if c = 37 ∧ a = 50 ∧ b = 50 then some 34 else none
def headU : List UInt8 → Option UInt8
  | c :: a :: b :: _ => escU c a b
  | _ => none
def unF : Nat → List UInt8 → List UInt8
  | 0, _ => []
  | _ + 1, [] => []
  | n + 1, c :: r => match headU (c :: r) with
    | some v => v :: unF n (r.drop 2)
    | none => c :: unF n r
def unL (l : List UInt8) : List UInt8 := unF l.length l
theorem unF_more : ∀ {n m : Nat} {l : List UInt8}, l.length ≤ n → l.length ≤ m → unF n l = unF m l
  | 0, 0, _, _, _ => rfl
  | 0, m + 1, [], _, _ => rfl
  | n + 1, 0, [], _, _ => rfl
  | n + 1, m + 1, [], _, _ => rfl
  | 0, m + 1, c :: r, h, _ => by simp at h
  | n + 1, 0, c :: r, _, h => by simp at h
  | n + 1, m + 1, c :: r, h, g => by
    have h : r.length ≤ n := by simpa using h
    have g : r.length ≤ m := by simpa using g
    show (match headU (c :: r) with | some v => v :: unF n (r.drop 2) | none => c :: unF n r) = (match headU (c :: r) with | some v => v :: unF m (r.drop 2) | none => c :: unF m r)
    cases headU (c :: r) with
    | some v => show v :: unF n (r.drop 2) = v :: unF m (r.drop 2); rw [unF_more (n := n) (m := m) (l := r.drop 2) (by rw [List.length_drop]; omega) (by rw [List.length_drop]; omega)]
    | none => show c :: unF n r = c :: unF m r; rw [unF_more h g]
theorem unL_some {c v : UInt8} {r : List UInt8} (h : headU (c :: r) = some v) : unL (c :: r) = v :: unL (r.drop 2) := by
  have e : unL (c :: r) = v :: unF r.length (r.drop 2) := by
    show (match headU (c :: r) with | some v => v :: unF r.length (r.drop 2) | none => c :: unF r.length r) = _
    rw [h]
  rw [e]
  unfold unL
  rw [unF_more (n := r.length) (m := (r.drop 2).length) (by rw [List.length_drop]; omega) (Nat.le_refl _)]
theorem unL_none {c : UInt8} {r : List UInt8} (h : headU (c :: r) = none) : unL (c :: r) = c :: unL r := by
  show (match headU (c :: r) with | some v => v :: unF r.length (r.drop 2) | none => c :: unF r.length r) = _
  rw [h]; rfl
theorem unL_len : ∀ (n : Nat) (l : List UInt8), (unF n l).length ≤ l.length
  | 0, _ => by simp [unF]
  | n + 1, [] => by simp [unF]
  | n + 1, c :: r => by
    show (match headU (c :: r) with | some v => v :: unF n (r.drop 2) | none => c :: unF n r).length ≤ _
    cases headU (c :: r) with
    | some v =>
      have := unL_len n (r.drop 2)
      rw [List.length_drop] at this
      show (unF n (r.drop 2)).length + 1 ≤ r.length + 1
      omega
    | none =>
      have := unL_len n r
      show (unF n r).length + 1 ≤ r.length + 1
      omega
end Go.Proofs.YtgibkbeakfaehaaDoor

namespace Go.Proofs.YtgibkbeakfaehaaDoor
open Go.RowKit
/-- What is read of a sign told in three. -/
theorem rep3_hit (a b v : UInt8) (r : List UInt8) : repA [37, a, b] [v] (37 :: a :: b :: r) = v :: repA [37, a, b] [v] r := by
  rw [show 37 :: a :: b :: r = [37, a, b] ++ r from rfl, repA_hit (by simp)]; rfl
theorem rep3_miss {a b v c : UInt8} {r : List UInt8} (h : [37, a, b].isPrefixOf (c :: r) = false) : repA [37, a, b] [v] (c :: r) = c :: repA [37, a, b] [v] r := repA_miss (by simp) c r h
theorem rep3_ne {a b v c : UInt8} (r : List UInt8) (h : c ≠ 37) : repA [37, a, b] [v] (c :: r) = c :: repA [37, a, b] [v] r := rep3_miss (by
  have : ((37 : UInt8) == c) = false := by rw [beq_eq_false_iff_ne]; exact fun t => h t.symm
  show ((37 : UInt8) == c && _) = false
  rw [this]; rfl)
/-- A sign that no reading makes stood there before. -/
theorem rep3_back {a b v x : UInt8} {l m : List UInt8} (h : repA [37, a, b] [v] l = x :: m) (hx : x ≠ v) : ∃ r, l = x :: r ∧ repA [37, a, b] [v] r = m := by
  cases l with
  | nil => rw [repA_nil (by simp)] at h; cases h
  | cons c r =>
    cases p : [37, a, b].isPrefixOf (c :: r) with
    | true =>
      obtain ⟨z, hz⟩ := List.isPrefixOf_iff_prefix.1 p
      rw [← hz] at h
      have h : repA [37, a, b] [v] (37 :: a :: b :: z) = x :: m := h
      rw [rep3_hit] at h
      exact absurd (List.cons.inj h).1.symm hx
    | false =>
      rw [rep3_miss p] at h
      obtain ⟨e1, e2⟩ := List.cons.inj h
      subst e1
      exact ⟨r, rfl, e2⟩
theorem pre3 {a b c : UInt8} {r : List UInt8} (h : [37, a, b].isPrefixOf (c :: r) = true) : ∃ z, c = 37 ∧ r = a :: b :: z := by
  obtain ⟨z, hz⟩ := List.isPrefixOf_iff_prefix.1 h
  have hz : 37 :: a :: b :: z = c :: r := hz
  obtain ⟨e1, e2⟩ := List.cons.inj hz
  exact ⟨z, e1.symm, e2.symm⟩
theorem rep3_keep {a b v p q : UInt8} {r : List UInt8} (hp : p ≠ v) (hq : q ≠ v) (h : ∀ z, r ≠ p :: q :: z) (z : List UInt8) : repA [37, a, b] [v] r ≠ p :: q :: z := fun e => by
  obtain ⟨r1, e1, e2⟩ := rep3_back e hp
  obtain ⟨r2, e3, _⟩ := rep3_back e2 hq
  exact h r2 (by rw [e1, e3])
def R2 (l : List UInt8) : List UInt8 := repA [37, 48, 68] [13] l
def R3 (l : List UInt8) : List UInt8 := repA [37, 50, 50] [34] l
theorem headU_no {c : UInt8} {r : List UInt8} (h : headU (c :: r) = none) : c ≠ 37 ∨ ((∀ z, r ≠ 48 :: 65 :: z) ∧ (∀ z, r ≠ 48 :: 68 :: z) ∧ ∀ z, r ≠ 50 :: 50 :: z) := by
  by_cases hc : c = 37
  · subst hc
    refine .inr ⟨fun z e => ?_, fun z e => ?_, fun z e => ?_⟩ <;> (subst e; cases h)
  · exact .inl hc
theorem headU_yes {c v : UInt8} {r : List UInt8} (h : headU (c :: r) = some v) : c = 37 ∧ ((v = 10 ∧ ∃ z, r = 48 :: 65 :: z) ∨ (v = 13 ∧ ∃ z, r = 48 :: 68 :: z) ∨ (v = 34 ∧ ∃ z, r = 50 :: 50 :: z)) := by
  match r with
  | [] => cases h
  | [_] => cases h
  | a :: b :: z =>
    have h : escU c a b = some v := h
    unfold escU at h
    split at h
    · rename_i g; cases h; obtain ⟨rfl, rfl, rfl⟩ := g; exact ⟨rfl, .inl ⟨rfl, z, rfl⟩⟩
    · split at h
      · rename_i _ g; cases h; obtain ⟨rfl, rfl, rfl⟩ := g; exact ⟨rfl, .inr (.inl ⟨rfl, z, rfl⟩)⟩
      · split at h
        · rename_i _ _ g; cases h; obtain ⟨rfl, rfl, rfl⟩ := g; exact ⟨rfl, .inr (.inr ⟨rfl, z, rfl⟩)⟩
        · cases h
theorem nopre {a b : UInt8} {r : List UInt8} (h : ∀ z, r ≠ a :: b :: z) (c : UInt8) : [37, a, b].isPrefixOf (c :: r) = false := by
  cases p : [37, a, b].isPrefixOf (c :: r) with
  | false => rfl
  | true => obtain ⟨z, _, e⟩ := pre3 p; exact absurd e (h z)
theorem rep_read : ∀ (n : Nat) (l : List UInt8), l.length ≤ n → R3 (R2 (R1 l)) = unL l
  | 0, l, h => by
    have : l = [] := List.eq_nil_of_length_eq_zero (by omega)
    subst this
    unfold R1 R2 R3
    rw [repA_nil (by simp), repA_nil (by simp), repA_nil (by simp)]; rfl
  | n + 1, [], _ => by
    unfold R1 R2 R3
    rw [repA_nil (by simp), repA_nil (by simp), repA_nil (by simp)]; rfl
  | n + 1, c :: r, h => by
    have h : r.length ≤ n := by simpa using h
    cases g : headU (c :: r) with
    | some v =>
      rw [unL_some g]
      obtain ⟨rfl, hv⟩ := headU_yes g
      rcases hv with ⟨rfl, z, rfl⟩ | ⟨rfl, z, rfl⟩ | ⟨rfl, z, rfl⟩
      all_goals
        have ih := rep_read n z (by simp only [List.length_cons] at h; omega)
        show _ = _ :: unL z
        rw [← ih]
        unfold R1 R2 R3
      · rw [rep3_hit, rep3_ne _ (by decide), rep3_ne _ (by decide)]
      · rw [rep3_miss (by rfl), rep3_ne (c := 48) _ (by decide), rep3_ne (c := 68) _ (by decide), rep3_hit, rep3_ne (c := 13) _ (by decide)]
      · rw [rep3_miss (by rfl), rep3_ne (c := 50) _ (by decide), rep3_ne (c := 50) _ (by decide), rep3_miss (by rfl), rep3_ne (c := 50) _ (by decide), rep3_ne (c := 50) _ (by decide), rep3_hit]
    | none =>
      rw [unL_none g, ← rep_read n r h]
      unfold R1 R2 R3
      rcases headU_no g with hc | ⟨n1, n2, n3⟩
      · rw [rep3_ne _ hc, rep3_ne _ hc, rep3_ne _ hc]
      · have m2 := fun z => rep3_keep (a := 48) (b := 65) (v := 10) (p := 48) (q := 68) (by decide) (by decide) n2 z
        have m3 := fun z => rep3_keep (a := 48) (b := 65) (v := 10) (p := 50) (q := 50) (by decide) (by decide) n3 z
        have m4 := fun z => rep3_keep (a := 48) (b := 68) (v := 13) (p := 50) (q := 50) (by decide) (by decide) m3 z
        rw [rep3_miss (nopre n1 c), rep3_miss (nopre m2 c), rep3_miss (nopre m4 c)]
theorem rep_un (l : List UInt8) : R3 (R2 (R1 l)) = unL l := rep_read l.length l (Nat.le_refl _)
end Go.Proofs.YtgibkbeakfaehaaDoor

namespace Go.Proofs.YtgibkbeakfaehaaDoor
open Go.RowKit
set_option maxRecDepth 100000
def uS : Nat → List UInt8 → List UInt8
  | 0, l => l
  | 1, l => R1 l
  | 2, l => R2 (R1 l)
  | _, l => R3 (R2 (R1 l))
theorem rep3_len (a b v : UInt8) : ∀ (n : Nat) (l : List UInt8), l.length ≤ n → (repA [37, a, b] [v] l).length ≤ l.length
  | 0, l, h => by
    have : l = [] := List.eq_nil_of_length_eq_zero (by omega)
    subst this
    rw [repA_nil (by simp)]; simp
  | n + 1, [], _ => by rw [repA_nil (by simp)]; simp
  | n + 1, c :: r, h => by
    have h : r.length ≤ n := by simpa using h
    cases p : [37, a, b].isPrefixOf (c :: r) with
    | true =>
      obtain ⟨z, rfl, rfl⟩ := pre3 p
      have ih := rep3_len a b v n z (by simp only [List.length_cons] at h; omega)
      rw [rep3_hit]
      simp only [List.length_cons]
      omega
    | false =>
      have ih := rep3_len a b v n r h
      rw [rep3_miss p]
      simp only [List.length_cons]
      omega
theorem uS_len (k : Nat) (l : List UInt8) : (uS k l).length ≤ l.length := by
  have h1 := rep3_len 48 65 10 l.length l (Nat.le_refl _)
  have h2 := rep3_len 48 68 13 (R1 l).length (R1 l) (Nat.le_refl _)
  have h3 := rep3_len 50 50 34 (R2 (R1 l)).length (R2 (R1 l)) (Nat.le_refl _)
  match k with
  | 0 => show l.length ≤ _; omega
  | 1 => show (R1 l).length ≤ _; exact h1
  | 2 => show (R2 (R1 l)).length ≤ _; unfold R1 R2 at *; omega
  | _ + 3 => show (R3 (R2 (R1 l))).length ≤ _; unfold R1 R2 R3 at *; omega
theorem unL_le (l : List UInt8) : (unL l).length ≤ l.length := unL_len l.length l
set_option maxHeartbeats 8000000 in
theorem unquote_any (s : ByteArray) (w : World) (hs : s.size ≤ 1073741824) (hT : PtTabs w) :
    Calls Tryd.prog 36 #[.string s] w fun e w' => e = .returned (.string (txt (unL (bL s)))) ∧ Below w.heap.size w w' := by
  have EQ : Hid (uS 3 (bL s) = unL (bL s)) := rep_un _
  have LU := unL_le (bL s)
  have LB := len_bL s
  have HC := hide (fun W => clone_any (txt (unL (bL s))) W (by show (unL (bL s)).length ≤ _; omega))
  have HT := hide hT
  have E0 : s = txt (uS 0 (bL s)) := (txt_is s).symm
  generalize unL (bL s) = RES at *
  generalize bL s = p at *
  have pz : p.length ≤ 1073741824 := by omega
  clear LU LB hs
  subst E0
  have B1 : Hid (Below w.heap.size w w) := Below.refl _ w
  have b1 := Below.refl w.heap.size w
  have T1 := hT.below b1
  have c0 := T1.sg.c0
  have c1 := T1.sg.c1
  have c2 := T1.sg.c2
  have c3 := T1.sg.c3
  have c4 := T1.sg.c4
  have c5 := T1.sg.c5
  clear T1 b1 hT
  go_enter Tryd.func36, Tryd.ntmps36
  go_wp2_with fail
  go_loopw [0, 6] (fun sv iv wr => ∃ k : Nat, k ≤ 3 ∧ iv = .int .i64 k ∧ sv = .string (txt (uS k p)) ∧ Hid (Below w.heap.size w wr)) (fun _ iv _ => 3 - (intOf iv).toNat)
  case atStart => exact ⟨0, by omega, rfl, rfl, B1⟩
  case round =>
    rename World => wr
    obtain ⟨k, hk, rfl, rfl, BW⟩ := hrel
    clear B1 c0 c1 c2 c3 c4 c5
    rcases (by omega : k = 0 ∨ k = 1 ∨ k = 2 ∨ k = 3) with rfl | rfl | rfl | rfl
    · have HR := hide (fun W (hb : Below w.heap.size w W) => replaceP_any (uS 0 p) [37, 48, 65] [10] W (by have := uS_len 0 p; omega) (HT.out.mx.below hb) (by decide) (by decide) (by decide))
      have EN : Hid (repA [37, 48, 65] [10] (uS 0 p) = uS 1 p) := rfl
      rw [EN.out] at HR
      have AL : Below wr.heap.size wr (wr.alloc (.cells #[.string ⟨#[10]⟩, .string ⟨#[37, 48, 65]⟩] 71)) := (Below.refl _ wr).alloc (Nat.le_refl _) _
      have B2 := hide (chain BW.out AL)
      clear AL EN
      have ix := fun w => sgIx0 (.string ⟨#[10]⟩) (.string ⟨#[37, 48, 65]⟩) (.string ⟨#[13]⟩) (.string ⟨#[37, 48, 68]⟩) (.string ⟨#[34]⟩) (.string ⟨#[37, 50, 50]⟩) w
      obtain ⟨p1, hp1⟩ : ∃ p1, p1 = uS 1 p := ⟨_, rfl⟩
      rw [← hp1] at HR
      have HP1 := hide hp1
      clear hp1
      generalize hp0 : uS 0 p = p0 at HR ⊢
      clear hp0
      go_wp2_with fail
      refine (HR.out _ B2.out).mono ?_
      rintro e w3 ⟨rfl, b3⟩
      have B3 := hide (chain B2.out b3)
      clear b3 HR B2 BW
      go_wp2_with fail
      go_roundw
      case rel => exact ⟨1, by omega, rfl, by rw [HP1.out], B3⟩
      case measure => decide
    · have HR := hide (fun W (hb : Below w.heap.size w W) => replaceP_any (uS 1 p) [37, 48, 68] [13] W (by have := uS_len 1 p; omega) (HT.out.mx.below hb) (by decide) (by decide) (by decide))
      have EN : Hid (repA [37, 48, 68] [13] (uS 1 p) = uS 2 p) := rfl
      rw [EN.out] at HR
      have AL : Below wr.heap.size wr (wr.alloc (.cells #[.string ⟨#[13]⟩, .string ⟨#[37, 48, 68]⟩] 71)) := (Below.refl _ wr).alloc (Nat.le_refl _) _
      have B2 := hide (chain BW.out AL)
      clear AL EN
      have ix := fun w => sgIx1 (.string ⟨#[10]⟩) (.string ⟨#[37, 48, 65]⟩) (.string ⟨#[13]⟩) (.string ⟨#[37, 48, 68]⟩) (.string ⟨#[34]⟩) (.string ⟨#[37, 50, 50]⟩) w
      obtain ⟨p1, hp1⟩ : ∃ p1, p1 = uS 2 p := ⟨_, rfl⟩
      rw [← hp1] at HR
      have HP1 := hide hp1
      clear hp1
      generalize hp0 : uS 1 p = p0 at HR ⊢
      clear hp0
      go_wp2_with fail
      refine (HR.out _ B2.out).mono ?_
      rintro e w3 ⟨rfl, b3⟩
      have B3 := hide (chain B2.out b3)
      clear b3 HR B2 BW
      go_wp2_with fail
      go_roundw
      case rel => exact ⟨2, by omega, rfl, by rw [HP1.out], B3⟩
      case measure => decide
    · have HR := hide (fun W (hb : Below w.heap.size w W) => replaceP_any (uS 2 p) [37, 50, 50] [34] W (by have := uS_len 2 p; omega) (HT.out.mx.below hb) (by decide) (by decide) (by decide))
      have EN : Hid (repA [37, 50, 50] [34] (uS 2 p) = uS 3 p) := rfl
      rw [EN.out] at HR
      have AL : Below wr.heap.size wr (wr.alloc (.cells #[.string ⟨#[34]⟩, .string ⟨#[37, 50, 50]⟩] 71)) := (Below.refl _ wr).alloc (Nat.le_refl _) _
      have B2 := hide (chain BW.out AL)
      clear AL EN
      have ix := fun w => sgIx2 (.string ⟨#[10]⟩) (.string ⟨#[37, 48, 65]⟩) (.string ⟨#[13]⟩) (.string ⟨#[37, 48, 68]⟩) (.string ⟨#[34]⟩) (.string ⟨#[37, 50, 50]⟩) w
      obtain ⟨p1, hp1⟩ : ∃ p1, p1 = uS 3 p := ⟨_, rfl⟩
      rw [← hp1] at HR
      have HP1 := hide hp1
      clear hp1
      generalize hp0 : uS 2 p = p0 at HR ⊢
      clear hp0
      go_wp2_with fail
      refine (HR.out _ B2.out).mono ?_
      rintro e w3 ⟨rfl, b3⟩
      have B3 := hide (chain B2.out b3)
      clear b3 HR B2 BW
      go_wp2_with fail
      go_roundw
      case rel => exact ⟨3, by omega, rfl, by rw [HP1.out], B3⟩
      case measure => decide
    · rw [EQ.out]
      clear EQ HT
      go_wp2_with fail
      refine (HC.out _).mono ?_
      rintro e w3 ⟨rfl, b3⟩
      go_wp2_with fail
      go_ret
      exact ⟨rfl, chain BW.out b3⟩

end Go.Proofs.YtgibkbeakfaehaaDoor
