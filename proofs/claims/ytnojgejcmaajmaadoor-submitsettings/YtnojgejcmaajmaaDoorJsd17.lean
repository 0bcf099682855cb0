/- The program's find, has, the questions of kinds, isOf, firstOf, isRooted, above of layer 16. What a form asks for, as functions of documents. -/
import Derived.Test.YtnojgejcmaajmaaDoorJsd10
import Derived.Test.YtnojgejcmaajmaaDoorJsd13
import Derived.WalkMore
import Derived.Deep.DeepCutAuto
import Derived.Deep.RegionHeld3
import Derived.Deep.RegionWith
import Derived.BigRegion
import Derived.Laws.MakeOwn

namespace Go.Proofs.YtnojgejcmaajmaaDoor
open Go.RowKit
set_option maxRecDepth 100000
/-- A node that lies in the world, told by its number. -/
theorem node_ofW {w : World} {p : Option Addr} {c : Nat} {l : List Nd} (hv : NodesV w (.slice p l.length c) l) {m : Nat} (hm : m < l.length) : ∃ b o va pk nk ck, p = some ⟨b, o, none⟩ ∧ NodeAt w b (o + m * 5) l[m] va (.slice pk nk ck) := by
  obtain ⟨p', c', e, h⟩ := hv
  cases e
  rcases h with h | ⟨b, o, rfl, h⟩
  · rw [h] at hm; cases hm
  · obtain ⟨va, vk, N⟩ := h m hm
    obtain ⟨pk, ck, rfl, _⟩ := N.ks
    exact ⟨b, o, va, pk, _, ck, rfl, N⟩
theorem nds_formW {w : World} {v : Value} {l : List Nd} (h : NodesV w v l) : ∃ p c, v = .slice p l.length c := by
  obtain ⟨p, c, e, _⟩ := h; exact ⟨p, c, e⟩
end Go.Proofs.YtnojgejcmaajmaaDoor

namespace Go.Proofs.YtnojgejcmaajmaaDoor
open Go.RowKit
def sMeO : ByteArray := ⟨#[102, 111, 114, 109, 109, 101, 116, 104, 111, 100]⟩
def sMe : ByteArray := ⟨#[109, 101, 116, 104, 111, 100]⟩
def sEnO : ByteArray := ⟨#[102, 111, 114, 109, 101, 110, 99, 116, 121, 112, 101]⟩
def sEn : ByteArray := ⟨#[101, 110, 99, 116, 121, 112, 101]⟩
def sPost : ByteArray := ⟨#[112, 111, 115, 116]⟩
def sDia : ByteArray := ⟨#[100, 105, 97, 108, 111, 103]⟩
def sGet : ByteArray := ⟨#[103, 101, 116]⟩
def sMul : ByteArray := ⟨#[109, 117, 108, 116, 105, 112, 97, 114, 116, 47, 102, 111, 114, 109, 45, 100, 97, 116, 97]⟩
def sPla : ByteArray := ⟨#[116, 101, 120, 116, 47, 112, 108, 97, 105, 110]⟩
def sNoV : ByteArray := ⟨#[110, 111, 118, 97, 108, 105, 100, 97, 116, 101]⟩
def sFNo : ByteArray := ⟨#[102, 111, 114, 109, 110, 111, 118, 97, 108, 105, 100, 97, 116, 101]⟩
def firesP (l : List Nd) (sub : Int) : Bool := decide (0 ≤ sub) && (decide (sub < (l.length : Int)) && fireB (kI l sub))
def setP_SubP (l : List Nd) (form sub : Int) (own other : ByteArray) : ByteArray := if (firesP l sub && hasA (nd l sub.toNat) own) = true then fndS (nd l sub.toNat).attrs own else fndS (nd l form.toNat).attrs other
def metP (l : List Nd) (form sub : Int) : ByteArray := if hasN l form = true then (if lowS (setP_SubP l form sub sMeO sMe) = sPost ∨ lowS (setP_SubP l form sub sMeO sMe) = sDia then lowS (setP_SubP l form sub sMeO sMe) else sGet) else ⟨#[]⟩
def knP (l : List Nd) (form sub : Int) : Int := if hasN l form = true then (if lowS (setP_SubP l form sub sEnO sEn) = sMul then 2 else if lowS (setP_SubP l form sub sEnO sEn) = sPla then 3 else 1) else 0
def askP (l : List Nd) (form sub : Int) : Bool := hasN l form && (!hasA (nd l form.toNat) sNoV && !(firesP l sub && hasA (nd l sub.toNat) sFNo))
/-- An address with its query. -/
def fst8 (c : UInt8) (s : List UInt8) : Nat := (s.takeWhile fun x => x != c).length
def qryL (a q : List UInt8) : List UInt8 := (a.take (fst8 35 a)).take (fst8 63 (a.take (fst8 35 a))) ++ (63 :: q) ++ a.drop (fst8 35 a)

end Go.Proofs.YtnojgejcmaajmaaDoor
