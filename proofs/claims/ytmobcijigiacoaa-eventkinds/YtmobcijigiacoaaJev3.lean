/- Ways up that end at all end within as many steps as there are nodes. The way down in a document. -/
import Derived.Test.YtmobcijigiacoaaJev2

namespace Go.Proofs.Ytmobcijigiacoaa
open Go.RowKit
/-- Different numbers below n are at most n. -/
theorem nodup_len : ∀ (n : Nat) (L : List Int), L.Nodup → (∀ x ∈ L, 0 ≤ x ∧ x < (n : Int)) → L.length ≤ n
  | 0, L, _, h => by
    cases L with
    | nil => exact Nat.le_refl _
    | cons x t => have := h x (List.mem_cons_self ..); omega
  | n + 1, L, hn, h => by
    have ih := nodup_len n (L.erase (n : Int)) (hn.erase _) (fun x hx => by
      have h1 := (hn.mem_erase_iff).1 hx
      have h2 := h x h1.2
      have h3 : x ≠ (n : Int) := h1.1
      omega)
    rw [List.length_erase] at ih
    split at ih <;> omega
end Go.Proofs.Ytmobcijigiacoaa

namespace Go.Proofs.Ytmobcijigiacoaa
open Go.RowKit
def inR (l : List Nd) (k : Int) : Prop := 0 ≤ k ∧ k < (l.length : Int)
def kidsI (l : List Nd) (k : Int) : List Int := (nd l k.toNat).kids
/-- So much fuel is enough. -/
def Sub (l : List Nd) : Nat → Int → Prop
  | 0, _ => False
  | n + 1, k => inR l k ∧ ∀ c ∈ kidsI l k, Sub l n c
/-- So many steps below a node without a parent. -/
def Dep (l : List Nd) : Nat → Int → Prop
  | 0, k => inR l k ∧ parI l k = -1
  | n + 1, k => inR l k ∧ Dep l n (parI l k)
theorem Dep.rng {l : List Nd} : ∀ {d : Nat} {k : Int}, Dep l d k → inR l k
  | 0, _, h => h.1
  | _ + 1, _, h => h.1
theorem Dep.one {l : List Nd} : ∀ {d e : Nat} {k : Int}, Dep l d k → Dep l e k → d = e
  | 0, 0, _, _, _ => rfl
  | 0, e + 1, k, h, g => by have := g.2.rng; rw [h.2] at this; exact absurd this.1 (by omega)
  | d + 1, 0, k, h, g => by have := h.2.rng; rw [g.2] at this; exact absurd this.1 (by omega)
  | d + 1, e + 1, k, h, g => by rw [Dep.one h.2 g.2]
/-- The nodes on the way up. -/
def upL (l : List Nd) : Nat → Int → List Int
  | 0, k => [k]
  | n + 1, k => k :: upL l n (parI l k)
theorem upL_len (l : List Nd) : ∀ (d : Nat) (k : Int), (upL l d k).length = d + 1
  | 0, _ => rfl
  | d + 1, k => by show (upL l d (parI l k)).length + 1 = _; rw [upL_len l d]
theorem upL_dep {l : List Nd} : ∀ {d : Nat} {k x : Int}, Dep l d k → x ∈ upL l d k → ∃ e, e ≤ d ∧ Dep l e x
  | 0, k, x, h, hx => by
    have : x = k := by simpa [upL] using hx
    rw [this]; exact ⟨0, Nat.le_refl _, h⟩
  | d + 1, k, x, h, hx => by
    rcases List.mem_cons.1 hx with q | q
    · rw [q]; exact ⟨d + 1, Nat.le_refl _, h⟩
    · obtain ⟨e, h1, h2⟩ := upL_dep h.2 q
      exact ⟨e, by omega, h2⟩
theorem upL_nodup {l : List Nd} : ∀ {d : Nat} {k : Int}, Dep l d k → (upL l d k).Nodup
  | 0, k, _ => by simp [upL]
  | d + 1, k, h => by
    refine List.nodup_cons.2 ⟨fun q => ?_, upL_nodup h.2⟩
    obtain ⟨e, h1, h2⟩ := upL_dep h.2 q
    have := Dep.one h2 h
    omega
theorem Dep.lt {l : List Nd} {d : Nat} {k : Int} (h : Dep l d k) : d < l.length := by
  have := nodup_len l.length (upL l d k) (upL_nodup h) (fun x hx => by
    obtain ⟨e, _, h2⟩ := upL_dep h hx
    exact h2.rng)
  rw [upL_len] at this
  omega
theorem Sub.mono {l : List Nd} : ∀ {f : Nat} {k : Int}, Sub l f k → Sub l (f + 1) k
  | 0, _, h => h.elim
  | _ + 1, _, h => ⟨h.1, fun c hc => (h.2 c hc).mono⟩

end Go.Proofs.Ytmobcijigiacoaa
