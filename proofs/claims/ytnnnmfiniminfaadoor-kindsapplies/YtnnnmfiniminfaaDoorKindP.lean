/- Kinds of elements: their types, ways and questions, as functions of numbers and texts; plain facts of no program. No condition. -/
import Derived.Test.YtnnnmfiniminfaaDoorDKit
namespace Go.Proofs.YtnnnmfiniminfaaDoor
open Go.RowKit

/-- In which way a kind has its value. -/
def modeV (k : Int) : Int := if (2 ≤ k ∧ k ≤ 15) ∨ k = 24 ∨ k = 28 then 1 else if k = 1 ∨ (19 ≤ k ∧ k ≤ 22) then 2 else if k = 16 ∨ k = 17 then 3 else if k = 18 then 4 else 0
def btwB (k a b : Int) : Bool := decide (a ≤ k ∧ k ≤ b)
def tickB (k : Int) : Bool := decide (k = 16 ∨ k = 17)
def subB (k : Int) : Bool := decide (1 ≤ k ∧ k ≤ 27)
def listB (k : Int) : Bool := decide ((1 ≤ k ∧ k ≤ 19) ∨ (21 ≤ k ∧ k ≤ 29))
def resB (k : Int) : Bool := decide ((1 ≤ k ∧ k ≤ 24) ∨ k = 28)
def labB (k : Int) : Bool := decide (2 ≤ k ∧ k ≤ 28)
def fireB (k : Int) : Bool := decide (k = 19 ∨ k = 20 ∨ k = 25)
def blockB (k : Int) : Bool := decide (2 ≤ k ∧ k ≤ 13)
def pairB (k : Int) : Bool := decide (k = 19 ∨ k = 25)

end Go.Proofs.YtnnnmfiniminfaaDoor
