/- The words of a text, as a loop over its bytes finds them. What a call of layer 15's document has about it. The document's Clear, Choose, Encode of layer 20. -/
import Derived.Test.YtnojgejcmaajmaaGreatDoorJsb18

namespace Go.Proofs.YtnojgejcmaajmaaGreatDoor
open Go.RowKit
def sub (s : ByteArray) (j k : Nat) : List UInt8 := (s.data.toList.drop j).take (k - j)
end Go.Proofs.YtnojgejcmaajmaaGreatDoor

namespace Go.Proofs.YtnojgejcmaajmaaGreatDoor
open Go.RowKit
set_option maxRecDepth 100000
structure OEnv (w W : World) (nv cv ov : Value) (C : List Ct) (F : List Value) (av : Value) (all : List Int) : Prop where
  bel : Below w.heap.size w W
  doc : Bk W w.heap.size [nv, cv] 25
  row : CtsO (w.heap.size + 1) W ov C F
  kid : KidsO (w.heap.size + 1) W av all
  sep : ∀ k, av.ownBlock = some k → ov.ownBlock ≠ some k
theorem OEnv.step {w W W' : World} {nv cv ov av : Value} {C : List Ct} {F : List Value} {all : List Int} (h : OEnv w W nv cv ov C F av all) (b : Below W.heap.size W W') : OEnv w W' nv cv ov C F av all :=
  ⟨chain h.bel b, h.doc.below b, h.row.kept b, owns_kept h.kid (Chg.of_below b) (fun _ _ q => by cases q), h.sep⟩
theorem OEnv.drew {w W : World} {nv cv ov av : Value} {C : List Ct} {F : List Value} {all : List Int} (h : OEnv w W nv cv ov C F av all) (n : Nat) : OEnv w (W.drewN n) nv cv ov C F av all :=
  h.step ⟨rfl, rfl, rfl, Nat.le_refl _, fun _ _ => rfl⟩
/-- At the begin: the document alone. -/
theorem OEnv.new (w : World) (nv cv : Value) : OEnv w (w.alloc (.cells #[nv, cv] 25)) nv cv (.slice none 0 0) [] [] (.slice none 0 0) [] :=
  ⟨(Below.refl _ w).alloc (Nat.le_refl _) _, Bk.new w [nv, cv] _, ⟨rfl, World.ownsRow_nil _ _ _ _⟩, World.ownsRow_nil _ _ _ _, fun _ q => by cases q⟩
theorem st_nat {C : List Ct} {q : Nat} (h : q < C.length) : st C (q : Int) = C[q] := by unfold st; rw [Int.toNat_natCast, List.getD_eq_getElem?_getD, List.getElem?_eq_getElem h]; rfl
end Go.Proofs.YtnojgejcmaajmaaGreatDoor

namespace Go.Proofs.YtnojgejcmaajmaaGreatDoor
open Go.RowKit
set_option maxRecDepth 100000
theorem ens_z {n : Nat} {l : List En} (h : EnsOK n l) (hn : n ≤ 1000000) : ∀ e ∈ l, EnZ 1000000 e := fun e he => by
  have := h.ent e he
  unfold EnZ
  omega
theorem files_formP {w : World} {v : Value} {l : List En} (h : FilesV w v l) : ∃ p c, v = .slice p l.length c := by
  obtain ⟨p, c, e, _⟩ := h; exact ⟨p, c, e⟩
/-- An entry of a row, told by its number. -/
theorem en_of {w : World} {p : Option Addr} {c : Nat} {l : List En} (hv : FilesV w (.slice p l.length c) l) {k : Nat} (h : k < l.length) : ∃ b o, p = some ⟨b, o, none⟩ ∧ EnAt w b (o + k * 5) l[k] := by
  obtain ⟨p', c', e, hv⟩ := hv
  cases e
  rcases hv with hv | ⟨b, o, rfl, hv⟩
  · rw [hv] at h; simp at h
  · exact ⟨b, o, rfl, hv k h⟩
theorem draw_of {w : World} {p : Option Addr} {c : Nat} {ds : List ByteArray} (hv : DrawsV w (.slice p ds.length c) ds) {k : Nat} (h : k < ds.length) : ∃ b o, p = some ⟨b, o, none⟩ ∧ w.cell? ⟨b, o + k, none⟩ = some (.string ds[k]) := by
  obtain ⟨p', c', e, hv, _⟩ := hv
  cases e
  rcases hv with hv | ⟨b, o, rfl, hv⟩
  · rw [hv] at h; simp at h
  · exact ⟨b, o, rfl, hv k h⟩
/-- The boundary that is chosen. -/
def chsP (l : List En) (ds : List ByteArray) : Option ByteArray := (ds.take 8).find? fun d => clrL l (bL d)
def chsT (o : Option ByteArray) : ByteArray := o.getD ⟨#[]⟩
def chsE (o : Option ByteArray) : Int := if o.isSome = true then 0 else 10
theorem find_skip {α : Type} {p : α → Bool} {xs : List α} {k : Nat} (h : k < xs.length) (hp : p xs[k] = false) : (xs.drop k).find? p = (xs.drop (k + 1)).find? p := by
  rw [List.drop_eq_getElem_cons h, List.find?_cons_of_neg (by rw [hp]; decide)]
theorem find_here {α : Type} {p : α → Bool} {xs : List α} {k : Nat} (h : k < xs.length) (hp : p xs[k] = true) : (xs.drop k).find? p = some xs[k] := by
  rw [List.drop_eq_getElem_cons h, List.find?_cons_of_pos hp]
theorem ret_chs {a b : ByteArray} {c d : Int} (h : a = b) (g : c = d) : Ending.returned (.tuple #[.string a, .int .i64 c]) = .returned (.tuple #[.string b, .int .i64 d]) := by rw [h, g]
/-- What is told of the first k entries. -/
def enT (l : List En) (b : List UInt8) (k : Nat) : List UInt8 := (l.take k).flatMap fun e => fstL b ++ partL e ++ [13, 10]
theorem enT_next (l : List En) (b : List UInt8) {k : Nat} (h : k < l.length) : enT l b (k + 1) = ((((enT l b k ++ [45, 45]) ++ b) ++ [13, 10]) ++ partL l[k]) ++ [13, 10] := by
  unfold enT
  rw [List.take_succ_eq_append_getElem h, List.flatMap_append]
  show _ ++ (fstL b ++ partL l[k] ++ [13, 10] ++ []) = _
  unfold fstL
  simp
theorem enT_all (l : List En) (b : List UInt8) : ((enT l b l.length ++ [45, 45]) ++ b) ++ [45, 45, 13, 10] = encP l b := by
  unfold enT encP endL
  rw [List.take_length]
  simp
theorem enT_len {l : List En} {b : List UInt8} (h : ∀ e ∈ l, EnZ 1000000 e) (hl : l.length ≤ 200) (hb : b.length ≤ 1000) (k : Nat) : (enT l b k).length ≤ 200 * 16001300 := by
  have A : ∀ m : List En, (∀ e ∈ m, EnZ 1000000 e) → (m.flatMap fun e => fstL b ++ partL e ++ [13, 10]).length ≤ m.length * 16001300 := by
    intro m
    induction m with
    | nil => intro _; simp
    | cons e m ih =>
      intro hm
      have i1 := ih (fun x hx => hm x (List.mem_cons_of_mem _ hx))
      have i2 := part_size (hm e List.mem_cons_self)
      have i3 : (fstL b).length = b.length + 4 := by unfold fstL; simp
      have i4 : (e :: m).length * 16001300 = m.length * 16001300 + 1 * 16001300 := Nat.add_mul _ _ _
      rw [List.flatMap_cons, List.length_append, List.length_append, List.length_append, i3, i4]
      show _ + 2 + _ ≤ _
      omega
  have h1 := A (l.take k) (fun e he => h e (List.mem_of_mem_take he))
  have h2 : (l.take k).length ≤ 200 := by rw [List.length_take]; omega
  have h3 : (l.take k).length * 16001300 ≤ 200 * 16001300 := Nat.mul_le_mul_right _ h2
  exact Nat.le_trans h1 h3
def encT20 (l : List En) (b : ByteArray) : ByteArray := if clrL l (bL b) = true then txt (encP l (bL b)) else ⟨#[]⟩
def encE20 (l : List En) (b : ByteArray) : Int := if clrL l (bL b) = true then 0 else 10

end Go.Proofs.YtnojgejcmaajmaaGreatDoor
