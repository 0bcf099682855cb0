/- Entries told by a text and read again, as functions of lists. The document's Clear, Choose, Encode of layer 20. -/
import Derived.Test.YtgibkbeakfaehaaDoorJpt3
import Derived.Lib.SlTrimSet

namespace Go.Proofs.YtgibkbeakfaehaaDoor
open Go.RowKit
/-- How long texts become. -/
structure EnsOK (n : Nat) (l : List En) : Prop where
  len : l.length ≤ 200
  ent : ∀ e ∈ l, e.name.size ≤ n ∧ e.val.size ≤ n ∧ e.fname.size ≤ n ∧ e.typ.size ≤ n
end Go.Proofs.YtgibkbeakfaehaaDoor

namespace Go.Proofs.YtgibkbeakfaehaaDoor
open Go.RowKit
set_option maxRecDepth 100000
theorem ens_z {n : Nat} {l : List En} (h : EnsOK n l) (hn : n ≤ 1000000) : ∀ e ∈ l, EnZ 1000000 e := fun e he => by
  have := h.ent e he
  unfold EnZ
  omega
theorem files_formP {w : World} {v : Value} {l : List En} (h : FilesV w v l) : ∃ p c, v = .slice p l.length c := by
  obtain ⟨p, c, e, _⟩ := h; exact ⟨p, c, e⟩
/-- An entry of a row, told by its number. -/
theorem en_of {w : World} {p : Option Addr} {c : Nat} {l : List En} (hv : FilesV w (.slice p l.length c) l) {k : Nat} (h : k < l.length) : ∃ b o, p = some ⟨b, o, none⟩ ∧ EnAt w b (o + k * 5) l[k] := by
  obtain ⟨p', c', e, hv⟩ := hv
  cases e
  rcases hv with hv | ⟨b, o, rfl, hv⟩
  · rw [hv] at h; simp at h
  · exact ⟨b, o, rfl, hv k h⟩
/-- Texts behind a slice. -/
def DrawsV (w : World) (v : Value) (ds : List ByteArray) : Prop := ∃ p c, v = .slice p ds.length c ∧ (ds = [] ∨ ∃ b o, p = some ⟨b, o, none⟩ ∧ ∀ i (h : i < ds.length), w.cell? ⟨b, o + i, none⟩ = some (.string ds[i])) ∧ ds.length ≤ c
theorem DrawsV.below {w w' : World} {v : Value} {ds : List ByteArray} (h : DrawsV w v ds) (hb : Below w.heap.size w w') : DrawsV w' v ds := by
  obtain ⟨p, c, e, h, hc⟩ := h
  refine ⟨p, c, e, ?_, hc⟩
  rcases h with h | ⟨b, o, e, h⟩
  · exact .inl h
  · exact .inr ⟨b, o, e, fun i hi => cell_below (h i hi) hb⟩
theorem ret_chs {a b : ByteArray} {c d : Int} (h : a = b) (g : c = d) : Ending.returned (.tuple #[.string a, .int .i64 c]) = .returned (.tuple #[.string b, .int .i64 d]) := by rw [h, g]
/-- What is told of the first k entries. -/
def enT (l : List En) (b : List UInt8) (k : Nat) : List UInt8 := (l.take k).flatMap fun e => fstL b ++ partL e ++ [13, 10]
theorem enT_next (l : List En) (b : List UInt8) {k : Nat} (h : k < l.length) : enT l b (k + 1) = ((((enT l b k ++ [45, 45]) ++ b) ++ [13, 10]) ++ partL l[k]) ++ [13, 10] := by
  unfold enT
  rw [List.take_succ_eq_append_getElem h, List.flatMap_append]
  show _ ++ (fstL b ++ partL l[k] ++ [13, 10] ++ []) = _
  unfold fstL
  simp
theorem enT_all (l : List En) (b : List UInt8) : ((enT l b l.length ++ [45, 45]) ++ b) ++ [45, 45, 13, 10] = encP l b := by
  unfold enT encP endL
  rw [List.take_length]
  simp
theorem enT_len {l : List En} {b : List UInt8} (h : ∀ e ∈ l, EnZ 1000000 e) (hl : l.length ≤ 200) (hb : b.length ≤ 1000) (k : Nat) : (enT l b k).length ≤ 200 * 16001300 := by
  have A : ∀ m : List En, (∀ e ∈ m, EnZ 1000000 e) → (m.flatMap fun e => fstL b ++ partL e ++ [13, 10]).length ≤ m.length * 16001300 := by
    intro m
    induction m with
    | nil => intro _; simp
    | cons e m ih =>
      intro hm
      have i1 := ih (fun x hx => hm x (List.mem_cons_of_mem _ hx))
      have i2 := part_size (hm e List.mem_cons_self)
      have i3 : (fstL b).length = b.length + 4 := by unfold fstL; simp
      have i4 : (e :: m).length * 16001300 = m.length * 16001300 + 1 * 16001300 := Nat.add_mul _ _ _
      rw [List.flatMap_cons, List.length_append, List.length_append, List.length_append, i3, i4]
      show _ + 2 + _ ≤ _
      omega
  have h1 := A (l.take k) (fun e he => h e (List.mem_of_mem_take he))
  have h2 : (l.take k).length ≤ 200 := by rw [List.length_take]; omega
  have h3 : (l.take k).length * 16001300 ≤ 200 * 16001300 := Nat.mul_le_mul_right _ h2
  exact Nat.le_trans h1 h3
def encT20 (l : List En) (b : ByteArray) : ByteArray := if clrL l (bL b) = true then txt (encP l (bL b)) else ⟨#[]⟩
def encE20 (l : List En) (b : ByteArray) : Int := if clrL l (bL b) = true then 0 else 10

end Go.Proofs.YtgibkbeakfaehaaDoor
