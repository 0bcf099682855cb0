/- Joined texts. Mail: Addresses of mail as lists of bytes: texts between a sign, labels, addresses, lists, cleaning, there and again; plain facts of no program. No condition. Col: Simple colours as lists of bytes: what is one, cleaning, numbers, there and back; plain facts of no program. No condition. CleanB: What a value becomes when it is cleaned, by its kind and attributes; cleaned again it is the same; plain facts of no program. No condition. RefShow3: The document's Show answers by the function of 'Num': its walks. Condition: numbers of 64 bits. -/
import Derived.Test.YtpkpkpiphgjbaaaGreatDoorJcl7
import Derived.Test.YtpkpkpiphgjbaaaGreatDoorJcl2
import Derived.Test.YtpkpkpiphgjbaaaGreatDoorJcl6
namespace Go.Proofs.YtpkpkpiphgjbaaaGreatDoor
open Go.RowKit

/-- A text ahead of the first of a row of texts. -/
def prep (a : List UInt8) : List (List UInt8) → List (List UInt8)
  | [] => [a]
  | h :: t => (a ++ h) :: t
/-- The texts between a sign. -/
def splitL (c : UInt8) : List UInt8 → List (List UInt8)
  | [] => [[]]
  | x :: l => if x = c then [] :: splitL c l else prep [x] (splitL c l)
theorem split_ne (c : UInt8) : ∀ l : List UInt8, splitL c l ≠ []
  | [] => by simp [splitL]
  | x :: l => by
    unfold splitL
    split
    · simp
    · cases h : splitL c l with
      | nil => simp [prep]
      | cons => simp [prep]
theorem prep_nil {c : UInt8} (l : List UInt8) : prep [] (splitL c l) = splitL c l := by
  cases h : splitL c l with
  | nil => exact absurd h (split_ne c l)
  | cons => rfl
theorem prep_prep (a b : List UInt8) (m : List (List UInt8)) : prep a (prep b m) = prep (a ++ b) m := by
  cases m with
  | nil => rfl
  | cons h t => show (a ++ (b ++ h)) :: t = (a ++ b ++ h) :: t; rw [List.append_assoc]
theorem split_hit {c : UInt8} (l : List UInt8) : splitL c (c :: l) = [] :: splitL c l := if_pos rfl
theorem split_miss {c x : UInt8} (l : List UInt8) (h : ¬ x = c) : splitL c (x :: l) = prep [x] (splitL c l) := if_neg h
/-- No text between a sign holds the sign. -/
theorem split_free {c : UInt8} : ∀ (l : List UInt8), ∀ p ∈ splitL c l, c ∉ p
  | [], p, hp => by
    have : p = [] := by simpa [splitL] using hp
    subst this; simp
  | x :: l, p, hp => by
    have ih := split_free (c := c) l
    by_cases h : x = c
    · subst h
      rw [split_hit] at hp
      rcases List.mem_cons.1 hp with e | e
      · subst e; simp
      · exact ih p e
    · rw [split_miss l h] at hp
      cases hs : splitL c l with
      | nil => exact absurd hs (split_ne c l)
      | cons a t =>
        rw [hs] at hp ih
        rcases List.mem_cons.1 hp with e | e
        · subst e
          intro hc
          rcases List.mem_cons.1 hc with e2 | e2
          · exact h e2.symm
          · exact ih a (List.mem_cons_self ..) e2
        · exact ih p (List.mem_cons_of_mem _ e)
theorem split_alone {c : UInt8} : ∀ {l : List UInt8}, c ∉ l → splitL c l = [l]
  | [], _ => rfl
  | x :: l, h => by
    rw [split_miss l (fun e => h (by rw [e]; exact List.mem_cons_self ..)), split_alone (fun e => h (List.mem_cons_of_mem _ e))]
    rfl
theorem split_sign {c : UInt8} : ∀ {a : List UInt8} (l : List UInt8), c ∉ a → splitL c (a ++ c :: l) = a :: splitL c l
  | [], l, _ => split_hit l
  | x :: a, l, h => by
    rw [List.cons_append, split_miss _ (fun e => h (by rw [e]; exact List.mem_cons_self ..)), split_sign l (fun e => h (List.mem_cons_of_mem _ e))]
    rfl
/-- Texts with a sign between. -/
def joinL (c : UInt8) : List (List UInt8) → List UInt8
  | [] => []
  | [a] => a
  | a :: b :: t => a ++ c :: joinL c (b :: t)
theorem split_join {c : UInt8} : ∀ (ps : List (List UInt8)), ps ≠ [] → (∀ p ∈ ps, c ∉ p) → splitL c (joinL c ps) = ps
  | [], h, _ => absurd rfl h
  | [a], _, h => split_alone (h a (List.mem_cons_self ..))
  | a :: b :: t, _, h => by
    show splitL c (a ++ c :: joinL c (b :: t)) = _
    rw [split_sign _ (h a (List.mem_cons_self ..)), split_join (b :: t) (by simp) (fun p hp => h p (List.mem_cons_of_mem _ hp))]
theorem join_snoc (c : UInt8) : ∀ (ps : List (List UInt8)) (q : List UInt8), ps ≠ [] → joinL c (ps ++ [q]) = joinL c ps ++ c :: q
  | [], _, h => absurd rfl h
  | [a], q, _ => rfl
  | a :: b :: t, q, _ => by
    show a ++ c :: joinL c (b :: (t ++ [q])) = (a ++ c :: joinL c (b :: t)) ++ c :: q
    have := join_snoc c (b :: t) q (by simp)
    rw [List.cons_append] at this
    rw [this]; simp
theorem join_len (c : UInt8) : ∀ (ps : List (List UInt8)), (joinL c ps).length ≤ (ps.map List.length).sum + ps.length
  | [] => by simp [joinL]
  | [a] => by simp [joinL]
  | a :: b :: t => by
    have ih := join_len c (b :: t)
    show (a ++ c :: joinL c (b :: t)).length ≤ _
    simp only [List.length_append, List.length_cons, List.map_cons, List.sum_cons] at ih ⊢
    omega

/-- May the sign at a place of a label stand there? -/
def labAt (l : List UInt8) (k : Nat) : Bool := plainB (l.getD k 0) || (l.getD k 0 == 45 && decide (k ≠ 0) && decide (k + 1 ≠ l.length))
def labelL (l : List UInt8) : Bool := decide (1 ≤ l.length ∧ l.length ≤ 63) && (List.range l.length).all (labAt l)
theorem label_iff (l : List UInt8) : labelL l = true ↔ (1 ≤ l.length ∧ l.length ≤ 63) ∧ ∀ k, k < l.length → labAt l k = true := by
  unfold labelL
  rw [Bool.and_eq_true, decide_eq_true_eq, List.all_eq_true]
  constructor
  · rintro ⟨h1, h2⟩
    exact ⟨h1, fun k hk => h2 k (List.mem_range.2 hk)⟩
  · rintro ⟨h1, h2⟩
    exact ⟨h1, fun k hk => h2 k (List.mem_range.1 hk)⟩
def mailSg : List UInt8 := [46, 33, 35, 36, 37, 38, 39, 42, 43, 47, 61, 63, 94, 95, 123, 124, 125, 126, 45, 96]
def userC (c : UInt8) : Bool := plainB c || hasB mailSg c
def notAt (c : UInt8) : Bool := c != 64
/-- The texts between the points behind the @, if there is one. -/
def hostOf : List UInt8 → List (List UInt8)
  | [] => [[]]
  | _ :: h => splitL 46 h
def addrL (l : List UInt8) : Bool := !(l.takeWhile notAt).isEmpty && (l.takeWhile notAt).all userC && (hostOf (l.dropWhile notAt)).all labelL
def listL (l : List UInt8) : Bool := l.isEmpty || (splitL 44 l).all fun p => addrL (stripL p)
def noBrL (l : List UInt8) : List UInt8 := endsP [] 0 l
def trimM (l : List UInt8) : List UInt8 := stripL (noBrL l)
def cleanM (l : List UInt8) : List UInt8 := joinL 44 ((splitL 44 l).map stripL)
theorem label_nil : labelL [] = false := by decide
theorem userC_at : userC 64 = false := by decide
theorem strip_sub {p : List UInt8} {c : UInt8} (h : c ∈ stripL p) : c ∈ p := by
  have h2 : ∀ q : List UInt8, Lib.trimRightS q blanks <+: q := by
    intro q
    unfold Lib.trimRightS
    rw [← List.reverse_suffix, List.reverse_reverse]
    exact List.dropWhile_suffix _
  unfold stripL Lib.trimS at h
  first
  | exact (trimLeft_suffix p).subset ((h2 _).subset h)
  | exact (h2 p).subset ((trimLeft_suffix _).subset h)
theorem clean_split (l : List UInt8) : splitL 44 (cleanM l) = (splitL 44 l).map stripL := by
  unfold cleanM
  refine split_join _ (by simpa using split_ne 44 l) ?_
  intro p hp
  obtain ⟨q, hq, rfl⟩ := List.mem_map.1 hp
  exact fun h => split_free l q hq (strip_sub h)
/-- What was cleaned stays. -/
theorem cleanM_again (l : List UInt8) : cleanM (cleanM l) = cleanM l := by
  show joinL 44 ((splitL 44 (cleanM l)).map stripL) = _
  rw [clean_split, List.map_map]
  show joinL 44 _ = joinL 44 _
  congr 1
  exact List.map_congr_left fun p _ => stripL_stripL p
/-- A list stays one. -/
theorem cleanM_list {l : List UInt8} (h : cleanM l ≠ []) : listL (cleanM l) = listL l := by
  have hl : l ≠ [] := fun e => by subst e; exact h (by decide)
  unfold listL
  rw [clean_split, List.all_map]
  have e1 : (cleanM l).isEmpty = false := by cases hc : cleanM l with
    | nil => exact absurd hc h
    | cons => rfl
  have e2 : l.isEmpty = false := by cases l with
    | nil => exact absurd rfl hl
    | cons => rfl
  rw [e1, e2]
  congr 1
  congr 1
  funext p
  show addrL (stripL (stripL p)) = _
  rw [stripL_stripL]
theorem noBr_free : ∀ (l : List UInt8) (p : UInt8), ∀ c ∈ endsP [] p l, c ≠ 10 ∧ c ≠ 13
  | [], p, c, h => by cases h
  | x :: l, p, c, h => by
    have h : c ∈ piece [] p x ++ endsP [] x l := h
    rcases List.mem_append.1 h with h | h
    · unfold piece at h
      split at h
      · cases h
      · split at h
        · cases h
        · rename_i h1 h2
          have : c = x := by simpa using h
          subst this
          exact ⟨fun e => h2 (.inl e), fun e => h2 (.inr e)⟩
    · exact noBr_free l x c h
theorem noBr_same : ∀ {l : List UInt8} (p : UInt8), (∀ c ∈ l, c ≠ 10 ∧ c ≠ 13) → endsP [] p l = l
  | [], p, _ => rfl
  | x :: l, p, h => by
    have hx := h x (List.mem_cons_self ..)
    show piece [] p x ++ endsP [] x l = _
    rw [piece_byte hx.1 hx.2, noBr_same x (fun c hc => h c (List.mem_cons_of_mem _ hc))]
    rfl
/-- What was trimmed stays. -/
theorem trimM_again (l : List UInt8) : trimM (trimM l) = trimM l := by
  unfold trimM
  have : noBrL (stripL (noBrL l)) = stripL (noBrL l) := noBr_same 0 (fun c hc => noBr_free l 0 c (strip_sub hc))
  rw [this, stripL_stripL]
theorem take_at {u : List UInt8} (k : List UInt8) (h : (64 : UInt8) ∉ u) : (u ++ 64 :: k).takeWhile notAt = u ∧ (u ++ 64 :: k).dropWhile notAt = 64 :: k := by
  induction u with
  | nil => exact ⟨rfl, rfl⟩
  | cons x u ih =>
    have hx : notAt x = true := by
      unfold notAt
      simp only [bne_iff_ne, ne_eq]
      exact fun e => h (by rw [e]; exact List.mem_cons_self ..)
    have ⟨i1, i2⟩ := ih (fun e => h (List.mem_cons_of_mem _ e))
    rw [List.cons_append, List.takeWhile_cons, List.dropWhile_cons, hx, i1, i2]
    exact ⟨rfl, rfl⟩
def userOk (u : List UInt8) : Bool := !u.isEmpty && u.all userC
/-- An address by its parts. -/
theorem addr_at {u : List UInt8} (k : List UInt8) (h : (64 : UInt8) ∉ u) : addrL (u ++ 64 :: k) = (userOk u && (splitL 46 k).all labelL) := by
  have ⟨e1, e2⟩ := take_at k h
  unfold addrL
  rw [e1, e2]
  rfl
theorem addr_user {u : List UInt8} (h : (64 : UInt8) ∉ u) : addrL (u ++ [64, 97]) = userOk u := by
  rw [addr_at [97] h, show (splitL 46 [97]).all labelL = true by decide, Bool.and_true]
theorem addr_host {p : List UInt8} (h : (46 : UInt8) ∉ p) : addrL (97 :: 64 :: p) = labelL p := by
  have := addr_at (u := [97]) p (by decide)
  rw [show ([97] ++ 64 :: p : List UInt8) = 97 :: 64 :: p from rfl] at this
  rw [this, split_alone h, show userOk [97] = true by decide]
  simp
theorem addr_none {l : List UInt8} (h : (64 : UInt8) ∉ l) : addrL l = false := by
  have : l.dropWhile notAt = [] := by
    induction l with
    | nil => rfl
    | cons x l ih =>
      have hx : notAt x = true := by
        unfold notAt
        simp only [bne_iff_ne, ne_eq]
        exact fun e => h (by rw [e]; exact List.mem_cons_self ..)
      rw [List.dropWhile_cons, hx]
      exact ih (fun e => h (List.mem_cons_of_mem _ e))
  unfold addrL
  rw [this]
  have e : (hostOf []).all labelL = false := by decide
  rw [e, Bool.and_false]

end Go.Proofs.YtpkpkpiphgjbaaaGreatDoor

namespace Go.Proofs.YtpkpkpiphgjbaaaGreatDoor
open Go.RowKit

def isHex (c : UInt8) : Bool := decide (0 ≤ hexV c)
theorem isHex_iff (c : UInt8) : isHex c = true ↔ 0 ≤ hexV c := by unfold isHex; simp
theorem isHex_not (c : UInt8) : isHex c = false ↔ hexV c < 0 := by
  unfold isHex
  rw [decide_eq_false_iff_not]; omega
def simpleL (l : List UInt8) : Bool := decide (l.length = 7) && (l.getD 0 0 == 35) && (l.drop 1).all isHex
def blackL : List UInt8 := [35, 48, 48, 48, 48, 48, 48]
def cleanL (l : List UInt8) : List UInt8 := if simpleL l = true then lowL l else blackL
/-- The number of the two digits at a place. -/
def pairAt (l : List UInt8) (k : Nat) : UInt8 := two (l.getD k 0) (l.getD (k + 1) 0)
def digs2 (c : UInt8) : List UInt8 := [hexD (c.toNat / 16), hexD (c.toNat % 16)]
def colL (r g b : UInt8) : List UInt8 := lowL (35 :: (digs2 r ++ digs2 g ++ digs2 b))
theorem clean_yes {l : List UInt8} (h : simpleL l = true) : cleanL l = lowL l := if_pos h
theorem clean_no {l : List UInt8} (h : simpleL l = false) : cleanL l = blackL := if_neg (by rw [h]; decide)
theorem hex_low (c : UInt8) : hexV (lowB c) = hexV c := by
  have : ∀ n : Fin 256, hexV (lowB (UInt8.ofNat n.val)) = hexV (UInt8.ofNat n.val) := by decide +kernel
  have h := this ⟨c.toNat, c.toNat_lt⟩
  simpa using h
theorem low_hex {c : UInt8} (h : 0 ≤ hexV c) : lowB (hexD (hexV c).toNat) = lowB c := by
  have : ∀ n : Fin 256, 0 ≤ hexV (UInt8.ofNat n.val) → lowB (hexD (hexV (UInt8.ofNat n.val)).toNat) = lowB (UInt8.ofNat n.val) := by decide +kernel
  have g := this ⟨c.toNat, c.toNat_lt⟩
  simp only [UInt8.ofNat_toNat] at g
  exact g h
theorem hexD_hex (n : Nat) (h : n < 16) : 0 ≤ hexV (hexD n) := by
  have := hexV_hexD ⟨n, h⟩
  simp only at this
  omega
theorem simple_shape {l : List UInt8} (h : simpleL l = true) : ∃ a b c d e f, l = [35, a, b, c, d, e, f] ∧ 0 ≤ hexV a ∧ 0 ≤ hexV b ∧ 0 ≤ hexV c ∧ 0 ≤ hexV d ∧ 0 ≤ hexV e ∧ 0 ≤ hexV f := by
  unfold simpleL at h
  rw [Bool.and_eq_true, Bool.and_eq_true, decide_eq_true_eq, beq_iff_eq, List.all_eq_true] at h
  obtain ⟨⟨h1, h2⟩, h3⟩ := h
  rcases l with _ | ⟨x, _ | ⟨a, _ | ⟨b, _ | ⟨c, _ | ⟨d, _ | ⟨e, _ | ⟨f, _ | ⟨g, r⟩⟩⟩⟩⟩⟩⟩⟩
  · cases h1
  · cases h1
  · cases h1
  · cases h1
  · cases h1
  · cases h1
  · cases h1
  · have hx : x = 35 := h2
    subst hx
    refine ⟨a, b, c, d, e, f, rfl, ?_⟩
    have g := fun y hy => (isHex_iff y).1 (h3 y hy)
    exact ⟨g a (by simp), g b (by simp), g c (by simp), g d (by simp), g e (by simp), g f (by simp)⟩
  · simp at h1
theorem simple_is {a b c d e f : UInt8} (ha : 0 ≤ hexV a) (hb : 0 ≤ hexV b) (hc : 0 ≤ hexV c) (hd : 0 ≤ hexV d) (he : 0 ≤ hexV e) (hf : 0 ≤ hexV f) : simpleL [35, a, b, c, d, e, f] = true := by
  unfold simpleL
  simp [isHex_iff, ha, hb, hc, hd, he, hf]
theorem lowL_col (a b c d e f : UInt8) : lowL [35, a, b, c, d, e, f] = [35, lowB a, lowB b, lowB c, lowB d, lowB e, lowB f] := by
  show lowB 35 :: _ = _
  rw [show lowB 35 = 35 by decide]; rfl
theorem clean_simple (l : List UInt8) : simpleL (cleanL l) = true := by
  cases h : simpleL l with
  | true =>
    rw [clean_yes h]
    obtain ⟨a, b, c, d, e, f, rfl, ha, hb, hc, hd, he, hf⟩ := simple_shape h
    rw [lowL_col]
    exact simple_is (by rw [hex_low]; exact ha) (by rw [hex_low]; exact hb) (by rw [hex_low]; exact hc) (by rw [hex_low]; exact hd) (by rw [hex_low]; exact he) (by rw [hex_low]; exact hf)
  | false => rw [clean_no h]; decide
theorem clean_clean (l : List UInt8) : cleanL (cleanL l) = cleanL l := by
  rw [clean_yes (clean_simple l)]
  cases h : simpleL l with
  | true => rw [clean_yes h, lowL_lowL]
  | false => rw [clean_no h]; decide
theorem two_low (a b : UInt8) : two (lowB a) (lowB b) = two a b := by unfold two; rw [hex_low, hex_low]
theorem colL_eq (r g b : UInt8) : colL r g b = [35, lowB (hexD (r.toNat / 16)), lowB (hexD (r.toNat % 16)), lowB (hexD (g.toNat / 16)), lowB (hexD (g.toNat % 16)), lowB (hexD (b.toNat / 16)), lowB (hexD (b.toNat % 16))] := lowL_col _ _ _ _ _ _
theorem col_simple (r g b : UInt8) : simpleL (colL r g b) = true := by
  have hr := r.toNat_lt; have hg := g.toNat_lt; have hb := b.toNat_lt
  rw [colL_eq]
  refine simple_is ?_ ?_ ?_ ?_ ?_ ?_ <;> rw [hex_low] <;> exact hexD_hex _ (by omega)
theorem col_parts (r g b : UInt8) : pairAt (colL r g b) 1 = r ∧ pairAt (colL r g b) 3 = g ∧ pairAt (colL r g b) 5 = b := by
  rw [colL_eq]
  refine ⟨?_, ?_, ?_⟩
  · show two (lowB _) (lowB _) = r
    rw [two_low, two_digits]
  · show two (lowB _) (lowB _) = g
    rw [two_low, two_digits]
  · show two (lowB _) (lowB _) = b
    rw [two_low, two_digits]
theorem two_nat {a b : UInt8} (ha : 0 ≤ hexV a) (hb : 0 ≤ hexV b) : ((two a b).toNat : Int) = hexV a * 16 + hexV b := by
  have h1 := hexV_lt a; have h2 := hexV_lt b
  unfold two
  simp
  omega
theorem two_back {a b : UInt8} (ha : 0 ≤ hexV a) (hb : 0 ≤ hexV b) : lowB (hexD ((two a b).toNat / 16)) = lowB a ∧ lowB (hexD ((two a b).toNat % 16)) = lowB b := by
  have h := two_nat ha hb
  have h1 := hexV_lt a; have h2 := hexV_lt b
  rw [show (two a b).toNat / 16 = (hexV a).toNat by omega, show (two a b).toNat % 16 = (hexV b).toNat by omega]
  exact ⟨low_hex ha, low_hex hb⟩
/-- The colour of a colour's numbers. -/
theorem parts_col {l : List UInt8} (h : simpleL l = true) : colL (pairAt l 1) (pairAt l 3) (pairAt l 5) = cleanL l := by
  rw [clean_yes h]
  obtain ⟨a, b, c, d, e, f, rfl, ha, hb, hc, hd, he, hf⟩ := simple_shape h
  rw [lowL_col, colL_eq]
  have h1 := two_back ha hb
  have h2 := two_back hc hd
  have h3 := two_back he hf
  show [35, lowB (hexD ((two a b).toNat / 16)), lowB (hexD ((two a b).toNat % 16)), lowB (hexD ((two c d).toNat / 16)), lowB (hexD ((two c d).toNat % 16)), lowB (hexD ((two e f).toNat / 16)), lowB (hexD ((two e f).toNat % 16))] = _
  rw [h1.1, h1.2, h2.1, h2.2, h3.1, h3.2]
/-- What is a simple colour, place by place. -/
theorem simple_at {s : ByteArray} : simpleL s.data.toList = true ↔ s.size = 7 ∧ byteAt s 0 = 35 ∧ ∀ k, 1 ≤ k → k < 7 → 0 ≤ hexV (byteAt s k) := by
  have hl : s.data.toList.length = s.size := by simp
  constructor
  · intro h
    obtain ⟨a, b, c, d, e, f, hs, ha, hb, hc, hd, he, hf⟩ := simple_shape h
    rw [hs] at hl
    refine ⟨hl.symm, by unfold byteAt; rw [hs]; rfl, ?_⟩
    intro k h1 h2
    unfold byteAt
    rw [hs]
    rcases (show k = 1 ∨ k = 2 ∨ k = 3 ∨ k = 4 ∨ k = 5 ∨ k = 6 by omega) with rfl | rfl | rfl | rfl | rfl | rfl <;> assumption
  · rintro ⟨h1, h2, h3⟩
    unfold simpleL
    rw [Bool.and_eq_true, Bool.and_eq_true, decide_eq_true_eq, beq_iff_eq, List.all_eq_true]
    refine ⟨⟨by omega, h2⟩, ?_⟩
    intro x hx
    obtain ⟨j, hj, e⟩ := List.getElem_of_mem hx
    rw [isHex_iff]
    have hj' : j < 6 := by rw [List.length_drop] at hj; omega
    have := h3 (j + 1) (by omega) (by omega)
    rw [← byteAt_eq s (j + 1) (by omega)] at this
    have hq : s[j + 1] = s.data.toList[j + 1]'(by omega) := by simp; rfl
    rw [List.getElem_drop] at e
    rw [hq] at this
    rw [← e]
    simpa only [Nat.add_comm 1 j] using this

end Go.Proofs.YtpkpkpiphgjbaaaGreatDoor

namespace Go.Proofs.YtpkpkpiphgjbaaaGreatDoor
open Go.RowKit

theorem most_range (k : Int) (ax : List (ByteArray × ByteArray)) : -1000000000000000000 ≤ optI (mostK k ax) ∧ optI (mostK k ax) ≤ 1000000000000000000 := by
  have l := least_range k ax
  unfold mostK
  split
  · exact attr_range k ax maxS
  · split
    · show -1000000000000000000 ≤ (if 100000000 < optI (leastK k ax) then optI (leastK k ax) else 100000000) ∧ (if 100000000 < optI (leastK k ax) then optI (leastK k ax) else 100000000) ≤ 1000000000000000000
      split <;> omega
    · exact ⟨by decide, by decide⟩
def loK (ax : List (ByteArray × ByteArray)) : Int := optI (leastK 14 ax)
def hiK (ax : List (ByteArray × ByteArray)) : Int := optI (mostK 14 ax)
/-- The number of a range's value, cleaned. -/
def rangeK (ax : List (ByteArray × ByteArray)) (l : List UInt8) : Int := rangeG (loK ax) (hiK ax) (baseK 14 ax) (stepK 14 ax) (numK 14 l)
def rangeT (ax : List (ByteArray × ByteArray)) (l : List UInt8) : List UInt8 := if numK 14 l = some (rangeK ax l) then l else showL (rangeK ax l)
theorem rangeK_is (ax : List (ByteArray × ByteArray)) (l : List UInt8) : loK ax ≤ rangeK ax l ∧ (rangeK ax l ≤ hiK ax ∨ hiK ax < loK ax) ∧ (∀ st, stepK 14 ax = some st → fitV (rangeK ax l) (baseK 14 ax) st = true ∨ hiK ax < loK ax ∨ hiK ax - loK ax < st) :=
  range_is (fun _ h => (step_range 14 ax h).1)
theorem onto_bound {lo hi base st n B : Int} (h : 1 ≤ st) (hn : n ≤ B) (hh : hi ≤ B) : ontoG lo hi base st n ≤ B := by
  obtain ⟨_, _, l1, l2⟩ := lo_fits (n := n) (base := base) h
  unfold ontoG
  split
  · exact hn
  · split
    · omega
    · split <;> omega
theorem rangeK_range (ax : List (ByteArray × ByteArray)) (l : List UInt8) : -1000000000000000000 ≤ rangeK ax l ∧ rangeK ax l ≤ 1000000000000000000 := by
  have a := least_range 14 ax
  have b := most_range 14 ax
  have r := rangeK_is ax l
  have ha : loK ax = optI (leastK 14 ax) := rfl
  have hb : hiK ax = optI (mostK 14 ax) := rfl
  refine ⟨by omega, ?_⟩
  have hd := def_in (loK ax) (hiK ax)
  have hn : (numK 14 l).getD (defG (loK ax) (hiK ax)) ≤ 1000000000000000000 := by
    cases h : numK 14 l with
    | none =>
      show defG (loK ax) (hiK ax) ≤ _
      unfold defG
      split <;> omega
    | some n => exact (num_range h).2
  have hh : heldG (loK ax) (hiK ax) ((numK 14 l).getD (defG (loK ax) (hiK ax))) ≤ 1000000000000000000 := by
    unfold heldG
    split
    · omega
    · split <;> omega
  unfold rangeK rangeG
  cases hS : stepK 14 ax with
  | none => exact hh
  | some st => exact onto_bound (step_range 14 ax hS).1 hh (by omega)
theorem rangeT_num (ax : List (ByteArray × ByteArray)) (l : List UInt8) : numK 14 (rangeT ax l) = some (rangeK ax l) := by
  unfold rangeT
  split
  · assumption
  · have r := rangeK_range ax l
    exact shk_back (k := 14) (.inl ⟨.inr rfl, .inl ⟨r.1, r.2, rfl⟩⟩)
theorem rangeK_again (ax : List (ByteArray × ByteArray)) (l : List UInt8) : rangeK ax (rangeT ax l) = rangeK ax l := by
  have e : rangeK ax (rangeT ax l) = rangeG (loK ax) (hiK ax) (baseK 14 ax) (stepK 14 ax) (some (rangeK ax l)) := by
    unfold rangeK
    rw [rangeT_num]; rfl
  rw [e]
  exact range_again (fun _ h => (step_range 14 ax h).1)
theorem rangeT_again (ax : List (ByteArray × ByteArray)) (l : List UInt8) : rangeT ax (rangeT ax l) = rangeT ax l := by
  have h : numK 14 (rangeT ax l) = some (rangeK ax (rangeT ax l)) := by rw [rangeT_num, rangeK_again]
  generalize rangeT ax l = t at *
  unfold rangeT
  rw [if_pos h]

def multS : ByteArray := ⟨#[109, 117, 108, 116, 105, 112, 108, 101]⟩
/-- What a value becomes. -/
def CleanIs (k : Int) (ax : List (ByteArray × ByteArray)) (l t : List UInt8) : Prop :=
  ((k = 2 ∨ k = 3 ∨ k = 4 ∨ k = 7) ∧ t = noBrL l) ∨ (k = 5 ∧ t = trimM l) ∨ (k = 6 ∧ (findA ax multS).isSome = true ∧ t = cleanM l) ∨ (k = 6 ∧ (findA ax multS).isSome = false ∧ t = trimM l) ∨
  ((k = 8 ∨ k = 9 ∨ k = 10 ∨ k = 11 ∨ k = 13) ∧ (numK k l).isSome = true ∧ t = l) ∨ ((k = 8 ∨ k = 9 ∨ k = 10 ∨ k = 11 ∨ k = 13) ∧ (numK k l).isSome = false ∧ t = []) ∨
  (k = 12 ∧ numK 12 l = none ∧ t = []) ∨ (k = 12 ∧ ∃ n, numK 12 l = some n ∧ ShK 12 n (some t)) ∨ (k = 14 ∧ t = rangeT ax l) ∨ (k = 15 ∧ t = cleanL l) ∨ ((k < 2 ∨ 15 < k) ∧ t = l)
theorem clean_some (k : Int) (ax : List (ByteArray × ByteArray)) (l : List UInt8) : ∃ t, CleanIs k ax l t := by
  rcases (show (k = 2 ∨ k = 3 ∨ k = 4 ∨ k = 7) ∨ k = 5 ∨ k = 6 ∨ (k = 8 ∨ k = 9 ∨ k = 10 ∨ k = 11 ∨ k = 13) ∨ k = 12 ∨ k = 14 ∨ k = 15 ∨ (k < 2 ∨ 15 < k) by omega) with h | h | h | h | h | h | h | h
  · exact ⟨_, .inl ⟨h, rfl⟩⟩
  · exact ⟨_, .inr (.inl ⟨h, rfl⟩)⟩
  · cases q : (findA ax multS).isSome with
    | true => exact ⟨_, .inr (.inr (.inl ⟨h, q, rfl⟩))⟩
    | false => exact ⟨_, .inr (.inr (.inr (.inl ⟨h, q, rfl⟩)))⟩
  · cases q : (numK k l).isSome with
    | true => exact ⟨_, .inr (.inr (.inr (.inr (.inl ⟨h, q, rfl⟩))))⟩
    | false => exact ⟨_, .inr (.inr (.inr (.inr (.inr (.inl ⟨h, q, rfl⟩)))))⟩
  · cases q : numK 12 l with
    | none => exact ⟨_, .inr (.inr (.inr (.inr (.inr (.inr (.inl ⟨h, q, rfl⟩))))))⟩
    | some n =>
      obtain ⟨t, ht⟩ := shk_num q
      exact ⟨t, .inr (.inr (.inr (.inr (.inr (.inr (.inr (.inl ⟨h, n, q, ht⟩)))))))⟩
  · exact ⟨_, .inr (.inr (.inr (.inr (.inr (.inr (.inr (.inr (.inl ⟨h, rfl⟩))))))))⟩
  · exact ⟨_, .inr (.inr (.inr (.inr (.inr (.inr (.inr (.inr (.inr (.inl ⟨h, rfl⟩)))))))))⟩
  · exact ⟨_, .inr (.inr (.inr (.inr (.inr (.inr (.inr (.inr (.inr (.inr ⟨h, rfl⟩)))))))))⟩
theorem noBr_again (l : List UInt8) : noBrL (noBrL l) = noBrL l := noBr_same 0 (fun c hc => noBr_free l 0 c hc)
theorem none_empty {k : Int} (h : k = 8 ∨ k = 9 ∨ k = 10 ∨ k = 11 ∨ k = 12 ∨ k = 13) : numK k [] = none := by
  rcases h with rfl | rfl | rfl | rfl | rfl | rfl <;> decide +kernel
/-- What is clean stays. -/
theorem clean_again {k : Int} {ax : List (ByteArray × ByteArray)} {l t : List UInt8} (h : CleanIs k ax l t) : CleanIs k ax t t := by
  rcases h with ⟨h, rfl⟩ | ⟨h, rfl⟩ | ⟨h, q, rfl⟩ | ⟨h, q, rfl⟩ | ⟨h, q, rfl⟩ | ⟨h, q, rfl⟩ | ⟨h, q, rfl⟩ | ⟨h, n, q, ht⟩ | ⟨h, rfl⟩ | ⟨h, rfl⟩ | ⟨h, rfl⟩
  · exact .inl ⟨h, (noBr_again l).symm⟩
  · exact .inr (.inl ⟨h, (trimM_again l).symm⟩)
  · exact .inr (.inr (.inl ⟨h, q, (cleanM_again l).symm⟩))
  · exact .inr (.inr (.inr (.inl ⟨h, q, (trimM_again l).symm⟩)))
  · exact .inr (.inr (.inr (.inr (.inl ⟨h, q, rfl⟩))))
  · exact .inr (.inr (.inr (.inr (.inr (.inl ⟨h, by rw [none_empty (by omega)]; rfl, rfl⟩)))))
  · exact .inr (.inr (.inr (.inr (.inr (.inr (.inl ⟨h, none_empty (by omega), rfl⟩))))))
  · exact .inr (.inr (.inr (.inr (.inr (.inr (.inr (.inl ⟨h, n, shk_back ht, ht⟩)))))))
  · exact .inr (.inr (.inr (.inr (.inr (.inr (.inr (.inr (.inl ⟨h, (rangeT_again ax l).symm⟩))))))))
  · exact .inr (.inr (.inr (.inr (.inr (.inr (.inr (.inr (.inr (.inl ⟨h, (clean_clean l).symm⟩)))))))))
  · exact .inr (.inr (.inr (.inr (.inr (.inr (.inr (.inr (.inr (.inr ⟨h, rfl⟩)))))))))

end Go.Proofs.YtpkpkpiphgjbaaaGreatDoor

namespace Go.Proofs.YtpkpkpiphgjbaaaGreatDoor
open Go.RowKit
set_option maxRecDepth 100000

set_option maxHeartbeats 2000000 in
theorem refShow_p0 (u : Nat) (w : World) (hu : u ≤ 9223372036854775807) (hr : u % 1000000 = 0) :
    Calls Tryz.prog 56 #[.int .i64 ((u : Int))] w fun e w' => e = .returned (.string (txt (tellL [] u))) ∧ Below w.heap.size w w' := by
  have hD := fun w => refDigitsN_any (u / 1000000) w (by omega)
  have hdl := decD_len (n := u / 1000000) (k := 20) (by omega) (by decide)
  have hle := tell_len (pre := []) (u := u) (by decide) (by omega)
  rw [show ((u / 1000000 : Nat) : Int) = (u : Int) / 1000000 by omega] at hD
  have HT := hide (tell_no (pre := []) hr)
  have hr' : ((u : Int) % 1000000 == 0) = true := by simp; omega
  generalize hdd : decD (u / 1000000) = d at *
  have hz : (txt d).size ≤ 20 := by rw [txt_size]; omega
  have HD := hide hD
  clear hD hr hdd
  have hx0 : 0 ≤ (u : Int) := by omega
  have hx1 : (u : Int) ≤ 9223372036854775807 := by omega
  clear hu
  generalize hxx : (u : Int) = x at *
  clear hxx
  go_enter Tryz.func56, Tryz.ntmps56
  go_wp2_with fail
  refine (HD.out _).mono ?_
  rintro e w1 ⟨rfl, b1⟩
  go_wp2_with fail
  go_ret
  refine ⟨ret_str ?_, b1⟩
  rw [HT.out]; rfl

set_option maxHeartbeats 2000000 in
theorem refShow_p1 (u : Nat) (w : World) (hu : u ≤ 9223372036854775807) (hr : u % 1000000 ≠ 0) :
    Calls Tryz.prog 56 #[.int .i64 ((u : Int))] w fun e w' => e = .returned (.string (txt (tellL [] u))) ∧ Below w.heap.size w w' := by
  have hD := fun w => refDigitsN_any (u / 1000000) w (by omega)
  have hdl := decD_len (n := u / 1000000) (k := 20) (by omega) (by decide)
  have hle := tell_len (pre := []) (u := u) (by decide) (by omega)
  rw [show ((u / 1000000 : Nat) : Int) = (u : Int) / 1000000 by omega] at hD
  have HT := hide (tell_yes (pre := []) hr)
  have hr' : ((u : Int) % 1000000 == 0) = false := by simp; omega
  have HS := hide (showAt_start ([] ++ decD (u / 1000000) ++ [46]) (m := u % 1000000) (by omega))
  have HX : Hid ((u : Int) % 1000000 = ((u % 1000000 : Nat) : Int)) := hide (by omega)
  generalize hdd : decD (u / 1000000) = d at *
  have hz : (txt d).size ≤ 20 := by rw [txt_size]; omega
  have HD := hide hD
  clear hD hr hdd
  have hx0 : 0 ≤ (u : Int) := by omega
  have hx1 : (u : Int) ≤ 9223372036854775807 := by omega
  clear hu
  generalize hxx : (u : Int) = x at *
  clear hxx
  go_enter Tryz.func56, Tryz.ntmps56
  go_wp2_with fail
  refine (HD.out _).mono ?_
  rintro e w1 ⟨rfl, b1⟩
  go_wp2_with fail
  go_loopw [3, 5] (fun v a wr => ∃ (r p m : Nat) (acc : List UInt8), v = .string (txt acc) ∧ a = .int .u64 r ∧ ShowAt (tellL [] u) r acc p m ∧ Below w.heap.size w wr) (fun v _ _ => 40 - Lib.strSize v)
  case atStart => exact ⟨u % 1000000, 6, u % 1000000, [] ++ d ++ [46], by show Value.string _ = _; rw [← txt_appN]; rfl, by rw [HX.out], by rw [HT.out]; exact HS.out, b1⟩
  case round =>
    obtain ⟨r, p, m, acc, rfl, rfl, hS, hb⟩ := hrel
    rename World => wr
    clear HD HX HS HT hr' hz hx0 hx1
    have hless := showAt_less hS
    by_cases h0 : 0 < r
    · obtain ⟨hlen, m', hS'⟩ := showAt_next hS h0
      have hD2 := fun w => refDigitsN_any (r / 100000) w (by omega)
      rw [decD_one (show r / 100000 < 10 by omega), show ((r / 100000 : Nat) : Int) = (r : Int) / 100000 by omega] at hD2
      have hac : (txt acc).size ≤ 30 := by rw [txt_size]; omega
      have hone : (txt [dgB (r / 100000)]).size = 1 := rfl
      have HAC := hide (show acc.length ≤ 29 by omega)
      have HAP := hide (txt_appN acc [dgB (r / 100000)])
      have HD2 := hide hD2
      have HS2 := hide hS'
      have HM : Hid ((r : Int) % 100000 * 10 = ((r % 100000 * 10 : Nat) : Int)) := hide (by omega)
      have hy0 : 0 < (r : Int) := by omega
      have hy1 : (r : Int) < 1000000 := by omega
      clear hD2 hS' hS hlen hle h0 hless
      generalize hyy : (r : Int) = y at *
      clear hyy
      go_wp2_with fail
      refine (HD2.out _).mono ?_
      rintro e w2 ⟨rfl, b2⟩
      go_wp2_with fail
      go_roundw
      case rel => exact ⟨r % 100000 * 10, p - 1, m', acc ++ [dgB (r / 100000)], by rw [← HAP.out], by rw [HM.out], HS2.out, hb.trans (b2.mono hb.size)⟩
      case measure =>
        have := HAC.out
        simp [Lib.strSize, txt_size, ByteArray.size_append]; omega
    · obtain rfl : r = 0 := by omega
      have E := hide (showAt_end hS)
      clear hS h0 hless
      go_wp2_with fail
      go_ret
      exact ⟨ret_str (by rw [E.out]), hb⟩

set_option maxHeartbeats 2000000 in
theorem refShow_n0 (u : Nat) (w : World) (hu : u ≤ 9223372036854775808) (h1 : 1 ≤ u) (hr : u % 1000000 = 0) :
    Calls Tryz.prog 56 #[.int .i64 (-(u : Int))] w fun e w' => e = .returned (.string (txt (tellL [45] u))) ∧ Below w.heap.size w w' := by
  have hD := fun w => refDigitsN_any (u / 1000000) w (by omega)
  have hdl := decD_len (n := u / 1000000) (k := 20) (by omega) (by decide)
  have hle := tell_len (pre := [45]) (u := u) (by decide) (by omega)
  rw [show ((u / 1000000 : Nat) : Int) = (u : Int) / 1000000 by omega] at hD
  have HT := hide (tell_no (pre := [45]) hr)
  have hr' : ((u : Int) % 1000000 == 0) = true := by simp; omega
  generalize hdd : decD (u / 1000000) = d at *
  have hz : (txt d).size ≤ 20 := by rw [txt_size]; omega
  have HD := hide hD
  clear hD hr hdd
  have hx0 : 1 ≤ (u : Int) := by omega
  have hx1 : (u : Int) ≤ 9223372036854775808 := by omega
  have hzp : (⟨#[45]⟩ : ByteArray).size = 1 := rfl
  have HA : Hid ((⟨#[45]⟩ : ByteArray) ++ txt d = txt ([45] ++ d)) := hide (txt_appN [45] d)
  have hneg : ∀ x : Int, -(-x + 1) + 1 = x := fun x => by omega
  clear hu h1
  generalize hxx : (u : Int) = x at *
  clear hxx
  go_enter Tryz.func56, Tryz.ntmps56
  go_wp2_with fail
  refine (HD.out _).mono ?_
  rintro e w1 ⟨rfl, b1⟩
  go_wp2_with fail
  go_ret
  refine ⟨ret_str ?_, b1⟩
  rw [HT.out]; exact HA.out

set_option maxHeartbeats 2000000 in
theorem refShow_n1 (u : Nat) (w : World) (hu : u ≤ 9223372036854775808) (h1 : 1 ≤ u) (hr : u % 1000000 ≠ 0) :
    Calls Tryz.prog 56 #[.int .i64 (-(u : Int))] w fun e w' => e = .returned (.string (txt (tellL [45] u))) ∧ Below w.heap.size w w' := by
  have hD := fun w => refDigitsN_any (u / 1000000) w (by omega)
  have hdl := decD_len (n := u / 1000000) (k := 20) (by omega) (by decide)
  have hle := tell_len (pre := [45]) (u := u) (by decide) (by omega)
  rw [show ((u / 1000000 : Nat) : Int) = (u : Int) / 1000000 by omega] at hD
  have HT := hide (tell_yes (pre := [45]) hr)
  have hr' : ((u : Int) % 1000000 == 0) = false := by simp; omega
  have HS := hide (showAt_start ([45] ++ decD (u / 1000000) ++ [46]) (m := u % 1000000) (by omega))
  have HX : Hid ((u : Int) % 1000000 = ((u % 1000000 : Nat) : Int)) := hide (by omega)
  generalize hdd : decD (u / 1000000) = d at *
  have hz : (txt d).size ≤ 20 := by rw [txt_size]; omega
  have HD := hide hD
  clear hD hr hdd
  have hx0 : 1 ≤ (u : Int) := by omega
  have hx1 : (u : Int) ≤ 9223372036854775808 := by omega
  have hzp : (⟨#[45]⟩ : ByteArray).size = 1 := rfl
  have HA : Hid ((⟨#[45]⟩ : ByteArray) ++ txt d = txt ([45] ++ d)) := hide (txt_appN [45] d)
  have hneg : ∀ x : Int, -(-x + 1) + 1 = x := fun x => by omega
  clear hu h1
  generalize hxx : (u : Int) = x at *
  clear hxx
  go_enter Tryz.func56, Tryz.ntmps56
  go_wp2_with fail
  refine (HD.out _).mono ?_
  rintro e w1 ⟨rfl, b1⟩
  go_wp2_with fail
  go_loopw [3, 5] (fun v a wr => ∃ (r p m : Nat) (acc : List UInt8), v = .string (txt acc) ∧ a = .int .u64 r ∧ ShowAt (tellL [45] u) r acc p m ∧ Below w.heap.size w wr) (fun v _ _ => 40 - Lib.strSize v)
  case atStart => exact ⟨u % 1000000, 6, u % 1000000, [45] ++ d ++ [46], by show Value.string _ = _; rw [← txt_appN, ← txt_appN]; rfl, by rw [HX.out], by rw [HT.out]; exact HS.out, b1⟩
  case round =>
    obtain ⟨r, p, m, acc, rfl, rfl, hS, hb⟩ := hrel
    rename World => wr
    clear HD HX HS HT hr' hz hx0 hx1 hzp hneg HA
    have hless := showAt_less hS
    by_cases h0 : 0 < r
    · obtain ⟨hlen, m', hS'⟩ := showAt_next hS h0
      have hD2 := fun w => refDigitsN_any (r / 100000) w (by omega)
      rw [decD_one (show r / 100000 < 10 by omega), show ((r / 100000 : Nat) : Int) = (r : Int) / 100000 by omega] at hD2
      have hac : (txt acc).size ≤ 30 := by rw [txt_size]; omega
      have hone : (txt [dgB (r / 100000)]).size = 1 := rfl
      have HAC := hide (show acc.length ≤ 29 by omega)
      have HAP := hide (txt_appN acc [dgB (r / 100000)])
      have HD2 := hide hD2
      have HS2 := hide hS'
      have HM : Hid ((r : Int) % 100000 * 10 = ((r % 100000 * 10 : Nat) : Int)) := hide (by omega)
      have hy0 : 0 < (r : Int) := by omega
      have hy1 : (r : Int) < 1000000 := by omega
      clear hD2 hS' hS hlen hle h0 hless
      generalize hyy : (r : Int) = y at *
      clear hyy
      go_wp2_with fail
      refine (HD2.out _).mono ?_
      rintro e w2 ⟨rfl, b2⟩
      go_wp2_with fail
      go_roundw
      case rel => exact ⟨r % 100000 * 10, p - 1, m', acc ++ [dgB (r / 100000)], by rw [← HAP.out], by rw [HM.out], HS2.out, hb.trans (b2.mono hb.size)⟩
      case measure =>
        have := HAC.out
        simp [Lib.strSize, txt_size, ByteArray.size_append]; omega
    · obtain rfl : r = 0 := by omega
      have E := hide (showAt_end hS)
      clear hS h0 hless
      go_wp2_with fail
      go_ret
      exact ⟨ret_str (by rw [E.out]), hb⟩

theorem refShow_any (n : Int) (w : World) (h1 : -9223372036854775808 ≤ n) (h2 : n ≤ 9223372036854775807) :
    Calls Tryz.prog 56 #[.int .i64 n] w fun e w' => e = .returned (.string (txt (showL n))) ∧ Below w.heap.size w w' := by
  rw [tell_is]
  by_cases hn : n < 0
  · obtain ⟨u, rfl⟩ : ∃ u : Nat, n = -(u : Int) := ⟨n.natAbs, by omega⟩
    have e : (-(u : Int)).natAbs = u := by omega
    rw [if_pos hn, e]
    by_cases hr : u % 1000000 = 0
    · exact refShow_n0 u w (by omega) (by omega) hr
    · exact refShow_n1 u w (by omega) (by omega) hr
  · obtain ⟨u, rfl⟩ : ∃ u : Nat, n = (u : Int) := ⟨n.toNat, by omega⟩
    have e : (u : Int).natAbs = u := by omega
    rw [if_neg hn, e]
    by_cases hr : u % 1000000 = 0
    · exact refShow_p0 u w (by omega) hr
    · exact refShow_p1 u w (by omega) hr

end Go.Proofs.YtpkpkpiphgjbaaaGreatDoor
