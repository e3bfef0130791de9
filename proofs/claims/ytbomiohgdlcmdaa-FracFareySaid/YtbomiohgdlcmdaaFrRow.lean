/-
  FAREY's rows as far as 30: reckoned; EULER's numbers as far as 30. No Go in sight.
-/
import Derived.Test.YtbomiohgdlcmdaaFrNear
import Derived.Test.YtbomiohgdlcmdaaDvInv
namespace Go.Proofs.Ytbomiohgdlcmdaa.Fr
open Eu Dd

/-- From two that stand side by side to the next ones. -/
def nxt : Nat → Nat → Nat × Nat → Nat × Nat → List (Nat × Nat)
  | 0, _, _, _ => []
  | k + 1, n, a, b => if b.1 ≤ b.2 then b :: nxt k n b ((n + a.2) / b.2 * b.1 - a.1, (n + a.2) / b.2 * b.2 - a.2) else []
/-- FAREY's row. -/
def FLn (n : Nat) : List (Nat × Nat) := (0, 1) :: nxt 300 n (0, 1) (1, n)

/-- All fractions, by denominators. -/
def prs : Nat → List (Nat × Nat)
  | 0 => []
  | q + 1 => prs q ++ ((List.range (q + 1 + 1)).filter fun p => Nat.gcd p (q + 1) == 1).map fun p => (p, q + 1)

/-- Two that stand side by side. -/
def adj : List (Nat × Nat) → Bool
  | a :: b :: l => b.1 * a.2 == a.1 * b.2 + 1 && adj (b :: l)
  | _ => true
/-- Three that stand side by side. -/
def med : List (Nat × Nat) → Bool
  | a :: b :: c :: l => (a.1 + c.1) * b.2 == (a.2 + c.2) * b.1 && med (b :: c :: l)
  | _ => true

/-- EULER's number, by counting. -/
def phc (n : Nat) : Nat := (((List.range n).map (· + 1)).filter fun k => Nat.gcd k n == 1).length
def sumc : Nat → Nat
  | 0 => 1
  | q + 1 => sumc q + phc (q + 1)

def okF (n : Nat) : Bool := adj (FLn n) && med (FLn n) && (FLn n).all (fun x => decide (x.1 ≤ x.2) && decide (1 ≤ x.2) && decide (x.2 ≤ n)) && (FLn n).isPerm (prs n) && (FLn n).length == sumc n

theorem okF_all : (List.range 30).all (fun n => okF (n + 1)) = true := by decide +kernel

theorem phc_sum : (List.range 30).all (fun n => sm (fun d => (phc d : Int)) (dv (n + 1)) == ((n + 1 : Nat) : Int)) = true := by decide +kernel

end Go.Proofs.Ytbomiohgdlcmdaa.Fr
