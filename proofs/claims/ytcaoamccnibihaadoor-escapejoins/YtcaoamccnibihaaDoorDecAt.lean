/- A text that is read from the left, escapes as their bytes: what is done, what is left: plain facts of no program. No condition. -/
import Derived.Test.YtcaoamccnibihaaDoorLow
import Derived.Test.YtcaoamccnibihaaDoorEsc
namespace Go.Proofs.YtcaoamccnibihaaDoor
open Go.RowKit

/-- What the loop has behind k bytes, the next one to be read being n (or k): the bytes l are done. -/
def DecAt (s : ByteArray) (k n : Nat) (l : List UInt8) : Prop := n ≤ s.size ∧ l ++ decL (s.data.toList.drop (max k n)) = decL s.data.toList
theorem decAt_start (s : ByteArray) : DecAt s 0 0 [] := ⟨Nat.zero_le _, rfl⟩
theorem decAt_len {s : ByteArray} {k n : Nat} {l : List UInt8} (h : DecAt s k n l) : l.length ≤ s.size := by
  have h1 := congrArg List.length h.2
  have h2 := decL_len s.data.toList
  rw [List.length_append] at h1
  have : s.data.toList.length = s.size := by simp
  omega
theorem decAt_skip {s : ByteArray} {k n : Nat} {l : List UInt8} (h : DecAt s k n l) (hk : k < n) : DecAt s (k + 1) n l := by
  refine ⟨h.1, ?_⟩
  rw [show max (k + 1) n = max k n by omega]; exact h.2
theorem decAt_hit {s : ByteArray} {k n : Nat} {l : List UInt8} {v : UInt8} (h : DecAt s k n l) (hk : n ≤ k) (he : headE (s.data.toList.drop k) = some v) : DecAt s (k + 1) (k + 3) (l ++ [v]) := by
  have hd := decL_some he
  have hl : s.data.toList.length = s.size := by simp
  have h3 := hd.2
  rw [List.length_drop] at h3
  refine ⟨by omega, ?_⟩
  have h2 := h.2
  rw [show max k n = k by omega, hd.1, List.drop_drop] at h2
  rw [show max (k + 1) (k + 3) = k + 3 by omega, List.append_assoc]
  exact h2
theorem decAt_miss {s : ByteArray} {k n : Nat} {l : List UInt8} (h : DecAt s k n l) (hk : n ≤ k) (hlt : k < s.size) (he : headE (s.data.toList.drop k) = none) : DecAt s (k + 1) n (l ++ [s[k]]) := by
  refine ⟨h.1, ?_⟩
  have h2 := h.2
  have hdr : s.data.toList.drop k = s[k] :: s.data.toList.drop (k + 1) := by
    rw [List.drop_eq_getElem_cons (by simpa using hlt)]; rfl
  rw [hdr] at he
  rw [show max k n = k by omega, hdr, decL_none he] at h2
  rw [show max (k + 1) n = k + 1 by omega, List.append_assoc]
  exact h2
theorem decAt_end {s : ByteArray} {k n : Nat} {l : List UInt8} (h : DecAt s k n l) (hk : s.size ≤ k) : l = decL s.data.toList := by
  have h2 := h.2
  rw [List.drop_of_length_le (by simp; omega)] at h2
  simpa [decL] using h2
theorem tail_list (s : ByteArray) (k : Nat) : (s.extract k s.size).data.toList = s.data.toList.drop k := by
  simp
  exact List.take_of_length_le (by simp)

theorem decAt_next {s : ByteArray} {k : Nat} {l : List UInt8} (h : DecAt s (k + 1) (k + 3) l) : DecAt s (k + 3) 0 l := by
  refine ⟨Nat.zero_le _, ?_⟩
  have h2 := h.2
  rw [show max (k + 1) (k + 3) = k + 3 by omega] at h2
  rw [show max (k + 3) 0 = k + 3 by omega]; exact h2
theorem drop1 (s : ByteArray) (k : Nat) (h : k < s.size) : s.data.toList.drop k = s[k] :: s.data.toList.drop (k + 1) := by
  rw [List.drop_eq_getElem_cons (by simpa using h)]; rfl
theorem drop3 (s : ByteArray) (k : Nat) (h : k + 2 < s.size) : s.data.toList.drop k = s[k] :: s[k + 1] :: s[k + 2] :: s.data.toList.drop (k + 3) := by
  rw [drop1 s k (by omega), drop1 s (k + 1) (by omega), drop1 s (k + 1 + 1) (by omega)]
theorem two_num {x y : UInt8} {a b : Nat} (ha : hexV x = a) (hb : hexV y = b) (ha16 : a < 16) (hb16 : b < 16) : ((two x y).toNat : Int) = (a : Int) * 16 + b := by
  unfold two; rw [ha, hb]
  have : ((a : Int) * 16 + b).toNat = a * 16 + b := by omega
  rw [this]; simp; omega

end Go.Proofs.YtcaoamccnibihaaDoor
