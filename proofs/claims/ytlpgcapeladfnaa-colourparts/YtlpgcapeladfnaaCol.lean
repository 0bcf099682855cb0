/- Simple colours as lists of bytes: what is one, cleaning, numbers, there and back; plain facts of no program. No condition. -/
import Derived.Test.YtlpgcapeladfnaaLow
import Derived.Test.YtlpgcapeladfnaaEsc
namespace Go.Proofs.Ytlpgcapeladfnaa
open Go.RowKit

def isHex (c : UInt8) : Bool := decide (0 ≤ hexV c)
theorem isHex_iff (c : UInt8) : isHex c = true ↔ 0 ≤ hexV c := by unfold isHex; simp
theorem isHex_not (c : UInt8) : isHex c = false ↔ hexV c < 0 := by
  unfold isHex
  rw [decide_eq_false_iff_not]; omega
def simpleL (l : List UInt8) : Bool := decide (l.length = 7) && (l.getD 0 0 == 35) && (l.drop 1).all isHex
def blackL : List UInt8 := [35, 48, 48, 48, 48, 48, 48]
def cleanL (l : List UInt8) : List UInt8 := if simpleL l = true then lowL l else blackL
/-- The number of the two digits at a place. -/
def pairAt (l : List UInt8) (k : Nat) : UInt8 := two (l.getD k 0) (l.getD (k + 1) 0)
def digs2 (c : UInt8) : List UInt8 := [hexD (c.toNat / 16), hexD (c.toNat % 16)]
def colL (r g b : UInt8) : List UInt8 := lowL (35 :: (digs2 r ++ digs2 g ++ digs2 b))
theorem clean_yes {l : List UInt8} (h : simpleL l = true) : cleanL l = lowL l := if_pos h
theorem clean_no {l : List UInt8} (h : simpleL l = false) : cleanL l = blackL := if_neg (by rw [h]; decide)
theorem hex_low (c : UInt8) : hexV (lowB c) = hexV c := by
  have : ∀ n : Fin 256, hexV (lowB (UInt8.ofNat n.val)) = hexV (UInt8.ofNat n.val) := by decide +kernel
  have h := this ⟨c.toNat, c.toNat_lt⟩
  simpa using h
theorem low_hex {c : UInt8} (h : 0 ≤ hexV c) : lowB (hexD (hexV c).toNat) = lowB c := by
  have : ∀ n : Fin 256, 0 ≤ hexV (UInt8.ofNat n.val) → lowB (hexD (hexV (UInt8.ofNat n.val)).toNat) = lowB (UInt8.ofNat n.val) := by decide +kernel
  have g := this ⟨c.toNat, c.toNat_lt⟩
  simp only [UInt8.ofNat_toNat] at g
  exact g h
theorem hexD_hex (n : Nat) (h : n < 16) : 0 ≤ hexV (hexD n) := by
  have := hexV_hexD ⟨n, h⟩
  simp only at this
  omega
theorem simple_shape {l : List UInt8} (h : simpleL l = true) : ∃ a b c d e f, l = [35, a, b, c, d, e, f] ∧ 0 ≤ hexV a ∧ 0 ≤ hexV b ∧ 0 ≤ hexV c ∧ 0 ≤ hexV d ∧ 0 ≤ hexV e ∧ 0 ≤ hexV f := by
  unfold simpleL at h
  rw [Bool.and_eq_true, Bool.and_eq_true, decide_eq_true_eq, beq_iff_eq, List.all_eq_true] at h
  obtain ⟨⟨h1, h2⟩, h3⟩ := h
  rcases l with _ | ⟨x, _ | ⟨a, _ | ⟨b, _ | ⟨c, _ | ⟨d, _ | ⟨e, _ | ⟨f, _ | ⟨g, r⟩⟩⟩⟩⟩⟩⟩⟩
  · cases h1
  · cases h1
  · cases h1
  · cases h1
  · cases h1
  · cases h1
  · cases h1
  · have hx : x = 35 := h2
    subst hx
    refine ⟨a, b, c, d, e, f, rfl, ?_⟩
    have g := fun y hy => (isHex_iff y).1 (h3 y hy)
    exact ⟨g a (by simp), g b (by simp), g c (by simp), g d (by simp), g e (by simp), g f (by simp)⟩
  · simp at h1
theorem simple_is {a b c d e f : UInt8} (ha : 0 ≤ hexV a) (hb : 0 ≤ hexV b) (hc : 0 ≤ hexV c) (hd : 0 ≤ hexV d) (he : 0 ≤ hexV e) (hf : 0 ≤ hexV f) : simpleL [35, a, b, c, d, e, f] = true := by
  unfold simpleL
  simp [isHex_iff, ha, hb, hc, hd, he, hf]
theorem lowL_col (a b c d e f : UInt8) : lowL [35, a, b, c, d, e, f] = [35, lowB a, lowB b, lowB c, lowB d, lowB e, lowB f] := by
  show lowB 35 :: _ = _
  rw [show lowB 35 = 35 by decide]; rfl
theorem clean_simple (l : List UInt8) : simpleL (cleanL l) = true := by
  cases h : simpleL l with
  | true =>
    rw [clean_yes h]
    obtain ⟨a, b, c, d, e, f, rfl, ha, hb, hc, hd, he, hf⟩ := simple_shape h
    rw [lowL_col]
    exact simple_is (by rw [hex_low]; exact ha) (by rw [hex_low]; exact hb) (by rw [hex_low]; exact hc) (by rw [hex_low]; exact hd) (by rw [hex_low]; exact he) (by rw [hex_low]; exact hf)
  | false => rw [clean_no h]; decide
theorem clean_clean (l : List UInt8) : cleanL (cleanL l) = cleanL l := by
  rw [clean_yes (clean_simple l)]
  cases h : simpleL l with
  | true => rw [clean_yes h, lowL_lowL]
  | false => rw [clean_no h]; decide
theorem two_low (a b : UInt8) : two (lowB a) (lowB b) = two a b := by unfold two; rw [hex_low, hex_low]
theorem colL_eq (r g b : UInt8) : colL r g b = [35, lowB (hexD (r.toNat / 16)), lowB (hexD (r.toNat % 16)), lowB (hexD (g.toNat / 16)), lowB (hexD (g.toNat % 16)), lowB (hexD (b.toNat / 16)), lowB (hexD (b.toNat % 16))] := lowL_col _ _ _ _ _ _
theorem col_simple (r g b : UInt8) : simpleL (colL r g b) = true := by
  have hr := r.toNat_lt; have hg := g.toNat_lt; have hb := b.toNat_lt
  rw [colL_eq]
  refine simple_is ?_ ?_ ?_ ?_ ?_ ?_ <;> rw [hex_low] <;> exact hexD_hex _ (by omega)
theorem col_parts (r g b : UInt8) : pairAt (colL r g b) 1 = r ∧ pairAt (colL r g b) 3 = g ∧ pairAt (colL r g b) 5 = b := by
  rw [colL_eq]
  refine ⟨?_, ?_, ?_⟩
  · show two (lowB _) (lowB _) = r
    rw [two_low, two_digits]
  · show two (lowB _) (lowB _) = g
    rw [two_low, two_digits]
  · show two (lowB _) (lowB _) = b
    rw [two_low, two_digits]
theorem two_nat {a b : UInt8} (ha : 0 ≤ hexV a) (hb : 0 ≤ hexV b) : ((two a b).toNat : Int) = hexV a * 16 + hexV b := by
  have h1 := hexV_lt a; have h2 := hexV_lt b
  unfold two
  simp
  omega
theorem two_back {a b : UInt8} (ha : 0 ≤ hexV a) (hb : 0 ≤ hexV b) : lowB (hexD ((two a b).toNat / 16)) = lowB a ∧ lowB (hexD ((two a b).toNat % 16)) = lowB b := by
  have h := two_nat ha hb
  have h1 := hexV_lt a; have h2 := hexV_lt b
  rw [show (two a b).toNat / 16 = (hexV a).toNat by omega, show (two a b).toNat % 16 = (hexV b).toNat by omega]
  exact ⟨low_hex ha, low_hex hb⟩
/-- The colour of a colour's numbers. -/
theorem parts_col {l : List UInt8} (h : simpleL l = true) : colL (pairAt l 1) (pairAt l 3) (pairAt l 5) = cleanL l := by
  rw [clean_yes h]
  obtain ⟨a, b, c, d, e, f, rfl, ha, hb, hc, hd, he, hf⟩ := simple_shape h
  rw [lowL_col, colL_eq]
  have h1 := two_back ha hb
  have h2 := two_back hc hd
  have h3 := two_back he hf
  show [35, lowB (hexD ((two a b).toNat / 16)), lowB (hexD ((two a b).toNat % 16)), lowB (hexD ((two c d).toNat / 16)), lowB (hexD ((two c d).toNat % 16)), lowB (hexD ((two e f).toNat / 16)), lowB (hexD ((two e f).toNat % 16))] = _
  rw [h1.1, h1.2, h2.1, h2.2, h3.1, h3.2]
/-- What is a simple colour, place by place. -/
theorem simple_at {s : ByteArray} : simpleL s.data.toList = true ↔ s.size = 7 ∧ byteAt s 0 = 35 ∧ ∀ k, 1 ≤ k → k < 7 → 0 ≤ hexV (byteAt s k) := by
  have hl : s.data.toList.length = s.size := by simp
  constructor
  · intro h
    obtain ⟨a, b, c, d, e, f, hs, ha, hb, hc, hd, he, hf⟩ := simple_shape h
    rw [hs] at hl
    refine ⟨hl.symm, by unfold byteAt; rw [hs]; rfl, ?_⟩
    intro k h1 h2
    unfold byteAt
    rw [hs]
    rcases (show k = 1 ∨ k = 2 ∨ k = 3 ∨ k = 4 ∨ k = 5 ∨ k = 6 by omega) with rfl | rfl | rfl | rfl | rfl | rfl <;> assumption
  · rintro ⟨h1, h2, h3⟩
    unfold simpleL
    rw [Bool.and_eq_true, Bool.and_eq_true, decide_eq_true_eq, beq_iff_eq, List.all_eq_true]
    refine ⟨⟨by omega, h2⟩, ?_⟩
    intro x hx
    obtain ⟨j, hj, e⟩ := List.getElem_of_mem hx
    rw [isHex_iff]
    have hj' : j < 6 := by rw [List.length_drop] at hj; omega
    have := h3 (j + 1) (by omega) (by omega)
    rw [← byteAt_eq s (j + 1) (by omega)] at this
    have hq : s[j + 1] = s.data.toList[j + 1]'(by omega) := by simp; rfl
    rw [List.getElem_drop] at e
    rw [hq] at this
    rw [← e]
    simpa only [Nat.add_comm 1 j] using this

end Go.Proofs.Ytlpgcapeladfnaa
