/-
  Polynomials in the laws: what is there before the walk, with its contract.
-/
import Derived.Test.YtfdhhiibhkepaaaPoKeep
import Derived.Test.YtfdhhiibhkepaaaPoGcd
import Derived.Test.YtfdhhiibhkepaaaOpen
namespace Go.Proofs.Ytfdhhiibhkepaaa
open Go.RowKit
open Pr Po

theorem ring_comm (p : Int) (hp : 0 < p) (F G : List Int) : red p (mul G F) = red p (mul F G) := red_cg hp (Cg.comm p G F)
theorem ring_assoc {p : Int} (hp : 0 < p) (F G H : List Int) : red p (mul F (red p (mul G H))) = red p (mul (red p (mul F G)) H) :=
  red_cg hp (((Cg.refl p F).mul (cg_red p _)).trans ((Cg.of_eq fun i => (mul_assoc F G H i).symm).trans ((cg_red p (mul F G)).symm.mul (Cg.refl p H))))
theorem ring_dist {p : Int} (hp : 0 < p) (F G H : List Int) : red p (add (red p (mul F G)) (red p (mul F H))) = red p (mul F (red p (add G H))) :=
  red_cg hp (((cg_red p _).add (cg_red p _)).trans ((Cg.of_eq fun i => by rw [c_add, mul_add]).trans ((Cg.refl p F).mul (cg_red p _).symm)))

/-- How long a quotient is. -/
theorem dv_len {p : Int} {f g q r : List Int} (hp : Prm p) (hg : Po.Can p g) (h0 : g ≠ []) (hD : IsDv p f g q r) : q = [] ∨ q.length + g.length ≤ f.length + 1 := by
  by_cases hq : q = []
  · exact .inl hq
  · have p2 := hp.1
    have e : red p (mul q g) = red p (add f (sc (-1) r)) := red_cg (by omega) fun i => by
      have := hD.2.2.2 i
      rw [c_add] at this
      rw [c_add, c_sc]
      rwa [show c (mul q g) i - (c f i + -1 * c r i) = c (mul q g) i + c r i - c f i by omega]
    have l1 := red_mul_length hp hD.1 hg hq h0
    have l2 := red_length p (add f (sc (-1) r))
    rw [← e, l1, add_length, sc_length] at l2
    have l3 := hD.2.2.1
    have l4 := List.length_pos_iff.mpr hq
    exact .inr (by omega)

theorem polyL {p : Int} (hp : Prm p) (p9 : p ≤ 997) (most : Nat) (m : Int) (hm : m = most) (hm4 : most ≤ 40) {w : World} {a : Option Addr} {len cap : Nat} {z : List Int} (h : IsInts .i64 8 w a len cap z) :
    ∃ (F : List Int) (N : Nat), F.length = N ∧ N ≤ most ∧ Po.Can p F ∧ ∀ w2, Ex w w2 → Calls Try.prog 17 #[.int .i64 p, .slice a len cap, .int .i64 m] w2 (Slc1 F N w2) := by
  have p2 := hp.1
  obtain ⟨hlen, hle, hcap, hr, _, _⟩ := h
  refine ⟨red p (z.take most), _, rfl, ?_, can_red (by omega) _, fun w2 hx => ?_⟩
  · have := red_length p (z.take most)
    rw [List.length_take] at this
    omega
  · rw [hm]
    exact (polyOf_any p z a len cap most w2 (by omega) p9 hlen (by omega) hle hm4 (hr.ex hx)).mono fun e w3 k => Row1.slc k rfl

theorem mulL {p : Int} (hp : Prm p) (p9 : p ≤ 997) {F G : List Int} {L M : Nat} (hF : Po.Can p F) (hG : Po.Can p G) (hL : F.length = L) (hM : G.length = M) (hm : L + M ≤ 41 ∧ L ≤ 40 ∧ M ≤ 40) :
    ∃ (H : List Int) (N : Nat), red p (mul F G) = H ∧ H.length = N ∧ N ≤ L + M ∧ Po.Can p H ∧ (L = 0 ∨ M = 0 → N = 0) ∧ (L = 0 ∨ M = 0 ∨ N + 1 = L + M) ∧
      ∀ (w : World) (a b : Option Addr) (ca cb : Nat), Reads w .i64 a F → Reads w .i64 b G → Calls Try.prog 28 #[.int .i64 p, .slice a L ca, .slice b M cb] w (Slc H N w) := by
  have p2 := hp.1
  refine ⟨_, _, rfl, rfl, ?_, can_red (by omega) _, ?_, ?_, fun w a b ca cb hr hr2 => mulS hp p9 hF hG hL hM hm.2.1 hm.2.2 hm.1 rfl rfl w a b ca cb hr hr2⟩
  · have h1 := red_length p (mul F G)
    have h2 := mul_len F G
    omega
  · have h1 := red_length p (mul F G)
    rintro (h | h)
    · have : F = [] := List.length_eq_zero_iff.mp (by omega)
      subst this
      rfl
    · have : G = [] := List.length_eq_zero_iff.mp (by omega)
      subst this
      have e : red p (mul F []) = red p [] := red_cg (by omega) (Cg.of_eq fun i => by rw [c_mul_nil_right]; rfl)
      rw [e]
      rfl
  · by_cases h1 : F = []
    · subst h1; exact .inl (by rw [← hL]; rfl)
    · by_cases h2 : G = []
      · subst h2; exact .inr (.inl (by rw [← hM]; rfl))
      · refine .inr (.inr ?_)
        have := red_mul_length hp hF hG h1 h2
        have := List.length_pos_iff.mpr h1
        omega

theorem addL {p : Int} (hp : Prm p) (p9 : p ≤ 997) {F G : List Int} {L M : Nat} (hF : Po.Can p F) (hG : Po.Can p G) (hL : F.length = L) (hM : G.length = M) (hm : L ≤ 40 ∧ M ≤ 40) :
    ∃ (H : List Int) (N : Nat), red p (add F G) = H ∧ H.length = N ∧ N ≤ max L M ∧ Po.Can p H ∧
      ∀ (w : World) (a b : Option Addr) (ca cb : Nat), Reads w .i64 a F → Reads w .i64 b G → Calls Try.prog 21 #[.int .i64 p, .slice a L ca, .slice b M cb] w (Slc H N w) := by
  have p2 := hp.1
  refine ⟨_, _, rfl, rfl, ?_, can_red (by omega) _, fun w a b ca cb hr hr2 => addS hp p9 hF hG hL hM hm.1 hm.2 rfl rfl w a b ca cb hr hr2⟩
  have h1 := red_length p (add F G)
  rw [add_length] at h1
  omega

end Go.Proofs.Ytfdhhiibhkepaaa
