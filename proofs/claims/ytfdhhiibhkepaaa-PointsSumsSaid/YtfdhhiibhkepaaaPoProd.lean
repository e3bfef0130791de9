/-
  The document's polynomials: Product.
-/
import Derived.Test.YtfdhhiibhkepaaaPoRef
namespace Go.Proofs.Ytfdhhiibhkepaaa
open Go.RowKit
open Pr Po

theorem mul_len (f g : List Int) : (mul f g).length ≤ f.length + g.length := by
  induction f with
  | nil => simp [mul]
  | cons a f ih =>
    rw [mul, add_length, sc_length, List.length_cons, List.length_cons]
    omega

theorem prod_len (p : Int) (f g : List Int) (k : Nat) : (red p (mul (f.take k) g)).length ≤ f.length + g.length := by
  have h1 := red_length p (mul (f.take k) g)
  have h2 := mul_len (f.take k) g
  rw [List.length_take] at h2
  omega


end Go.Proofs.Ytfdhhiibhkepaaa
