/- The program's reader: 'next', 'sign'. Condition: texts as long as the law asks. -/
import Derived.Test.YtekcbkicfoaheaaGreatDoorMomRd2
import Derived.Test.YtekcbkicfoaheaaGreatDoorMomLib
namespace Go.Proofs.YtekcbkicfoaheaaGreatDoor
open Go.RowKit

/-- The signs of a text. -/
def SignsOf (g : ByteArray) (p : UInt8 → Bool) : Prop := ∀ c, (p c = true → 0 ≤ Lib.indexByte g.data.toList c) ∧ (p c = false → Lib.indexByte g.data.toList c < 0)
theorem signs_one {d : UInt8} {p : UInt8 → Bool} (h : ∀ c, p c = true ↔ c = d) : SignsOf ⟨#[d]⟩ p := by
  intro c
  have e : Lib.indexByte [d] c = if d == c then 0 else -1 := by
    unfold Lib.indexByte
    split <;> rfl
  show (_ → 0 ≤ Lib.indexByte [d] c) ∧ (_ → Lib.indexByte [d] c < 0)
  rw [e]
  constructor
  · intro g
    obtain rfl := (h c).1 g
    simp
  · intro g
    have : ¬ c = d := fun x => by rw [(h c).2 x] at g; cases g
    have : (d == c) = false := by simp; exact fun x => this x.symm
    rw [this]; decide
theorem signs_sep : SignsOf ⟨#[84, 32]⟩ isSep := by
  intro c
  have e : Lib.indexByte [84, 32] c = if (84 : UInt8) == c then 0 else if (32 : UInt8) == c then 1 else -1 := by
    unfold Lib.indexByte Lib.indexByte
    cases (84 : UInt8) == c <;> cases (32 : UInt8) == c <;> rfl
  show (_ → 0 ≤ Lib.indexByte [84, 32] c) ∧ (_ → Lib.indexByte [84, 32] c < 0)
  rw [e]
  unfold isSep
  rw [show (c == 84) = ((84 : UInt8) == c) from BEq.comm, show (c == 32) = ((32 : UInt8) == c) from BEq.comm]
  cases (84 : UInt8) == c <;> cases (32 : UInt8) == c <;> simp
theorem signs_hy : SignsOf ⟨#[45]⟩ isHy := signs_one isHy_iff
theorem signs_col : SignsOf ⟨#[58]⟩ isCol := signs_one isCol_iff
theorem signs_pt : SignsOf ⟨#[46]⟩ isPt := signs_one isPt_iff
theorem signs_W : SignsOf ⟨#[87]⟩ isW := signs_one isW_iff

set_option maxHeartbeats 1000000 in
theorem next_no (w0 : World) (R : Nat) (l : List UInt8) (b : Bool) (g : ByteArray) (p : UInt8 → Bool) (w : World) (h : Rd w0 w R l b) (hl : l.length ≤ 1000000) (hp : SignsOf g p) (hn : signP p l = none) :
    Calls Tryz.prog 40 #[.pointer (some ⟨R, 0, none⟩), .string g] w fun e w' => e = .returned (.bool false) ∧ w' = w := by
  cases l with
  | nil =>
    have c0 : w.cell? ⟨R, 0, none⟩ = some (.string ⟨#[]⟩) := h.cell0
    clear hp hn h
    go_enter Tryz.func40, Tryz.ntmps40
    go_wp2_with fail
    go_ret
    exact ⟨rfl, rfl⟩
  | cons c r =>
    obtain ⟨s, hse⟩ : ∃ s : ByteArray, c :: r = s.data.toList := ⟨txt (c :: r), rfl⟩
    have hs1 : s.size = r.length + 1 := by
      have := congrArg List.length hse
      simpa using this.symm
    have hs : 0 < s.size := by omega
    have hs2 : s.size ≤ 1000000 := by rw [hs1]; exact hl
    have hc : c = s[0] := by
      have : s[0] = s.data.toList[0]'(by simpa using hs) := by simp; rfl
      rw [this]; simp [← hse]
    rw [hse] at h
    have c0 : w.cell? ⟨R, 0, none⟩ = some (.string s) := h.cell0
    have hpc : p s[0] = false := by
      rw [← hc]
      cases e : p c with
      | false => rfl
      | true => rw [sign_cons, e] at hn; cases hn
    have hi := (hp s[0]).2 hpc
    have hne : ¬ s.toList = [] := by rw [ByteArray.toList_eq, ← hse]; simp
    have hne2 : s.toList.isEmpty = false := by rw [ByteArray.toList_eq, ← hse]; rfl
    have HI := hide (fun w => indexByte_is g s[0] w)
    generalize Lib.indexByte g.data.toList s[0] = x at hi HI
    clear hp hn h hse hc hpc hs1 hl
    go_enter Tryz.func40, Tryz.ntmps40
    go_wp2_with fail
    refine (HI.out _).mono ?_
    rintro e v ⟨rfl, rfl⟩
    go_wp2_with fail
    go_ret
    exact ⟨rfl, rfl⟩

set_option maxHeartbeats 1000000 in
theorem next_yes (w0 : World) (R : Nat) (l k : List UInt8) (b : Bool) (g : ByteArray) (p : UInt8 → Bool) (w : World) (h : Rd w0 w R l b) (hl : l.length ≤ 1000000) (hp : SignsOf g p) (hn : signP p l = some (0, k)) :
    Calls Tryz.prog 40 #[.pointer (some ⟨R, 0, none⟩), .string g] w fun e w' => e = .returned (.bool true) ∧ Rd w0 w' R k b := by
  cases l with
  | nil => cases hn
  | cons c r =>
    obtain ⟨s, hse⟩ : ∃ s : ByteArray, c :: r = s.data.toList := ⟨txt (c :: r), rfl⟩
    have hs1 : s.size = r.length + 1 := by
      have := congrArg List.length hse
      simpa using this.symm
    have hs : 0 < s.size := by omega
    have hs2 : s.size ≤ 1000000 := by rw [hs1]; exact hl
    have hc : c = s[0] := by
      have : s[0] = s.data.toList[0]'(by simpa using hs) := by simp; rfl
      rw [this]; simp [← hse]
    have hpc : p c = true ∧ r = k := by
      rw [sign_cons] at hn
      split at hn
      · rename_i e; cases hn; exact ⟨e, rfl⟩
      · cases hn
    obtain ⟨hpc, rfl⟩ := hpc
    rw [hc] at hpc
    have hi := (hp s[0]).1 hpc
    have hne : ¬ s.toList = [] := by rw [ByteArray.toList_eq, ← hse]; simp
    have hne2 : s.toList.isEmpty = false := by rw [ByteArray.toList_eq, ← hse]; rfl
    have HI := hide (fun w => indexByte_is g s[0] w)
    have hdr : r = s.data.toList.drop 1 := by rw [← hse]; rfl
    rw [hse] at h
    have c0 : w.cell? ⟨R, 0, none⟩ = some (.string s) := h.cell0
    have f0 := h.frozen 0
    have E := hide (show Rd w0 (w.setCell ⟨R, 0, none⟩ (.string (s.extract 1 s.size))) R r b by
      rw [txt_post, hdr]; exact h.set0 _)
    generalize Lib.indexByte g.data.toList s[0] = x at hi HI
    clear hp hn h hse hc hpc hs1 hdr hl
    go_enter Tryz.func40, Tryz.ntmps40
    go_wp2_with fail
    refine (HI.out _).mono ?_
    rintro e v ⟨rfl, rfl⟩
    go_wp2_with fail
    go_ret
    exact ⟨rfl, E.out⟩

theorem sign_len {p : UInt8 → Bool} {l k : List UInt8} {v : Int} (h : signP p l = some (v, k)) : k.length ≤ l.length := by
  cases l with
  | nil => cases h
  | cons c r =>
    rw [sign_cons] at h
    split at h
    · cases h; simp
    · cases h

set_option maxHeartbeats 1000000 in
theorem sign_any (w0 : World) (R : Nat) (l : List UInt8) (b : Bool) (g : ByteArray) (p : UInt8 → Bool) (w : World) (h : Rd w0 w R l b) (hl : l.length ≤ 1000000) (hp : SignsOf g p) :
    Calls Tryz.prog 33 #[.pointer (some ⟨R, 0, none⟩), .string g] w fun e w' => ∃ k b', e = .returned (.tuple #[]) ∧ Rd w0 w' R k b' ∧ k.length ≤ 1000000 ∧ Tell b (signP p l) 0 k b' := by
  cases hn : signP p l with
  | none =>
    have HN := hide (next_no w0 R l b g p w h hl hp hn)
    have HM := hide (must_any w0 R l b false w h)
    clear hp hn h
    go_enter Tryz.func33, Tryz.ntmps33
    go_wp2_with fail
    refine HN.out.mono ?_
    rintro e v ⟨rfl, rfl⟩
    go_wp2_with fail
    refine HM.out.mono ?_
    rintro e v ⟨rfl, h1⟩
    go_wp2_with fail
    go_end0
    exact ⟨l, _, rfl, h1, hl, .inr ⟨by simp, .inr rfl⟩⟩
  | some x =>
    obtain ⟨v, k⟩ := x
    have hv : v = 0 := by
      cases l with
      | nil => cases hn
      | cons c r =>
        rw [sign_cons] at hn
        split at hn
        · cases hn; rfl
        · cases hn
    subst hv
    have HN := hide (next_yes w0 R l k b g p w h hl hp hn)
    have hk : k.length ≤ 1000000 := Nat.le_trans (sign_len hn) hl
    clear hp hn h
    go_enter Tryz.func33, Tryz.ntmps33
    go_wp2_with fail
    refine HN.out.mono ?_
    rintro e v ⟨rfl, h1⟩
    go_wp2_with fail
    refine (must_any w0 R k b true v h1).mono ?_
    rintro e v2 ⟨rfl, h2⟩
    go_wp2_with fail
    go_end0
    refine ⟨k, b, rfl, by simpa using h2, hk, Tell.pure⟩

end Go.Proofs.YtekcbkicfoaheaaGreatDoor
