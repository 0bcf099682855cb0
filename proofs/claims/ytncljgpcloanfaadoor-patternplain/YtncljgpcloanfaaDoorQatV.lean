/- Letters and digits as a pattern: they fit themselves and nothing else; plain facts of no program. No condition. -/
import Derived.Test.YtncljgpcloanfaaDoorQatS
namespace Go.Proofs.YtncljgpcloanfaaDoor
open Go.RowKit Go.Lib

def plainN (c : Nat) : Bool := isDN c || (decide (65 ≤ c ∧ c ≤ 90) || decide (97 ≤ c ∧ c ≤ 122))
theorem plainN_iff (c : Nat) : plainN c = true ↔ (48 ≤ c ∧ c ≤ 57) ∨ (65 ≤ c ∧ c ≤ 90) ∨ (97 ≤ c ∧ c ≤ 122) := by
  unfold plainN isDN
  rw [Bool.or_eq_true, Bool.or_eq_true, decide_eq_true_eq, decide_eq_true_eq, decide_eq_true_eq]
def signRow : List Nat → Pat
  | [] => .eps
  | c :: t => .piece (.one (.sign c)) 1 (some 1) (signRow t)
theorem bad_not {c : Nat} (h : plainN c = true) : inN badN c = false ∧ stopN c = false := by
  have h := (plainN_iff c).1 h
  unfold inN badN stopN
  simp
  omega
theorem atom_plain {c : Nat} {t : List Nat} (h : plainN c = true) : atomD 8 (c :: t) = some (.one (.sign c), t) := by
  have hc := (plainN_iff c).1 h
  show atomL (some (rowsD 7)) (c :: t) = _
  unfold atomL
  simp only
  rw [if_neg (by omega), if_neg (by omega), if_neg (by omega), (bad_not h).1, if_neg (by simp), if_neg (by omega)]
theorem often_plain {t : List Nat} (h : ∀ c ∈ t, plainN c = true) : oftenL false t = some (1, some 1, t) := by
  cases t with
  | nil => rfl
  | cons c t =>
    have hc := (plainN_iff c).1 (h c (by simp))
    unfold oftenL
    simp only
    rw [if_neg (by omega), if_neg (by omega), if_neg (by omega), if_neg (by omega)]
theorem row_plain : ∀ {l : List Nat}, (∀ c ∈ l, plainN c = true) → rowD 8 l = some (signRow l, [])
  | [], _ => row_nil 8
  | c :: t, h => by
    have hc := h c (by simp)
    have ht : ∀ d ∈ t, plainN d = true := fun d hd => h d (by simp [hd])
    have hc2 := (plainN_iff c).1 hc
    have hg : (c == 40) = false := by rw [beq_eq_false_iff_ne]; omega
    have := (row_next 8 (bad_not hc).2 (atom_plain (t := t) hc) (by rw [hg]; exact often_plain ht)).1
    rw [this, row_plain ht]
    rfl
theorem M_signRow (s : List Nat) : ∀ (l : List Nat) (i j : Nat), M s (signRow l) i j ↔ j = i + l.length ∧ ∀ k, k < l.length → s[i + k]? = l[k]?
  | [], i, j => by
    show i = j ↔ _
    simp
    omega
  | c :: t, i, j => by
    constructor
    · rintro ⟨n, m, h1, h2, h3, h4⟩
      have := h2 1 rfl
      obtain rfl : n = 1 := by omega
      obtain ⟨q, ⟨e1, x, hx, hf⟩, h6⟩ := h3
      have e2 : q = m := h6
      subst e2
      obtain ⟨e3, h7⟩ := (M_signRow s t q j).1 h4
      refine ⟨by rw [List.length_cons]; omega, fun k hk => ?_⟩
      cases k with
      | zero =>
        have : x = c := by simpa [fitOne] using hf
        rw [Nat.add_zero, hx, this]; rfl
      | succ k =>
        have := h7 k (by rw [List.length_cons] at hk; omega)
        rw [List.getElem?_cons_succ, ← this, e1, show i + (k + 1) = i + 1 + k by omega]
    · rintro ⟨e, h⟩
      rw [List.length_cons] at e
      refine ⟨1, i + 1, Nat.le_refl _, (fun h e => by cases e; omega), ⟨i + 1, ⟨rfl, c, ?_, by simp [fitOne]⟩, rfl⟩, (M_signRow s t (i + 1) j).2 ⟨by omega, fun k hk => ?_⟩⟩
      · have := h 0 (by simp)
        rw [Nat.add_zero] at this
        rw [this]; rfl
      · have := h (k + 1) (by rw [List.length_cons]; omega)
        rw [show i + 1 + k = i + (k + 1) by omega, this]; rfl
theorem fit_signRow (l s : List Nat) : fitB (signRow l) s = decide (l = s) := by
  rw [Bool.eq_iff_iff, fit_iff, M_signRow, decide_eq_true_eq]
  constructor
  · rintro ⟨e, h⟩
    rw [Nat.zero_add] at e
    apply List.ext_getElem?
    intro k
    by_cases hk : k < l.length
    · have := h k hk
      rw [Nat.zero_add] at this
      exact this.symm
    · rw [List.getElem?_eq_none (by omega), List.getElem?_eq_none (by omega)]
  · rintro rfl
    exact ⟨by omega, fun k _ => by rw [Nat.zero_add]⟩
theorem decode_small (l : List UInt8) (hne : l ≠ []) (h : (decodeL l).1 < 128) : ∃ c t, l = c :: t ∧ c.toNat = (decodeL l).1 ∧ (decodeL l).2 = 1 := by
  cases l with
  | nil => exact absurd rfl hne
  | cons c t =>
    by_cases hc : c.toNat < 128
    · rw [decodeL_ascii c t hc]; exact ⟨c, t, rfl, rfl, rfl⟩
    · exfalso
      rw [decodeL_N] at h
      have hb : ((c :: t).getD 0 0) = c := rfl
      rcases decodeN_shape (c :: t).length ((c :: t).getD 0 0).toNat ((c :: t).getD 1 0).toNat ((c :: t).getD 2 0).toNat ((c :: t).getD 3 0).toNat with ⟨g, e⟩ | ⟨_, _, _, g, e⟩ | ⟨_, _, _, _, g, _, e⟩ | ⟨_, _, _, _, _, g, _, e⟩ | e
      · rw [hb] at g; exact hc g
      · rw [e] at h; have : _ < 128 := h; omega
      · rw [e] at h; have : _ < 128 := h; omega
      · rw [e] at h; have : _ < 128 := h; omega
      · rw [e] at h; have : 65533 < 128 := h; omega
theorem signs_plain : ∀ {l : List UInt8} {s : List UInt8}, (∀ c ∈ l, c.toNat < 128) → (l.map (·.toNat) = signsL s ↔ l = s)
  | [], s, _ => by
    constructor
    · intro h; exact (signs_empty.1 h.symm).symm
    · rintro rfl; rfl
  | c :: t, s, hl => by
    constructor
    · intro h
      have hs : s ≠ [] := by
        rintro rfl
        cases h
      rw [signs_step s hs, List.map_cons] at h
      obtain ⟨e1, e2⟩ := List.cons.inj h
      obtain ⟨d, u, rfl, e3, e4⟩ := decode_small s hs (by rw [← e1]; exact hl c (by simp))
      rw [e4] at e2
      have ih := (signs_plain (l := t) (s := u) (fun x hx => hl x (by simp [hx]))).1 e2
      rw [ih, UInt8.toNat_inj.1 (e1.trans e3.symm)]
    · rintro rfl
      rw [signs_cons c t (hl c (by simp)), List.map_cons, (signs_plain (l := t) (s := t) (fun x hx => hl x (by simp [hx]))).2 rfl]
/-- Letters and digits are a pattern, and fit themselves alone. -/
theorem plain_right {p : List UInt8} (hl : p.length ≤ 200) (h : ∀ c ∈ p, plainN c.toNat = true) : rightL p = true ∧ ∀ s, fitB (patD p) (signsL s) = decide (p = s) := by
  have h7 : ∀ c ∈ p, c.toNat < 128 := fun c hc => by have := (plainN_iff _).1 (h c hc); omega
  have e : signsL p = p.map (·.toNat) := ((signs_plain (s := p) h7).2 rfl).symm
  have hp : ∀ c ∈ p.map (·.toNat), plainN c = true := by
    intro c hc
    obtain ⟨d, hd, rfl⟩ := List.mem_map.1 hc
    exact h d hd
  have e2 : patOf p = some (signRow (p.map (·.toNat))) := by
    rw [patOf_some, e]
    exact rows_one 8 (row_plain hp) (by simp)
  have hv : validD p = true := by
    rw [validD_ascii p.length p (fun b hb => h7 b (List.mem_of_mem_take hb)), List.drop_length]; rfl
  refine ⟨right_iff.2 ⟨hl, hv, _, e2⟩, fun s => ?_⟩
  rw [patD_of e2, fit_signRow, Bool.eq_iff_iff, decide_eq_true_eq, decide_eq_true_eq]
  exact signs_plain h7

end Go.Proofs.YtncljgpcloanfaaDoor
