/-
  The document's polynomials: Product.
-/
import Derived.Test.YtfempfmpphbfnaaPoRef
namespace Go.Proofs.Ytfempfmpphbfnaa
open Go.RowKit
open Pr Po

theorem mul_len (f g : List Int) : (mul f g).length ≤ f.length + g.length := by
  induction f with
  | nil => simp [mul]
  | cons a f ih =>
    rw [mul, add_length, sc_length, List.length_cons, List.length_cons]
    omega

theorem prod_len (p : Int) (f g : List Int) (k : Nat) : (red p (mul (f.take k) g)).length ≤ f.length + g.length := by
  have h1 := red_length p (mul (f.take k) g)
  have h2 := mul_len (f.take k) g
  rw [List.length_take] at h2
  omega

set_option maxRecDepth 100000 in
set_option maxHeartbeats 2000000 in
theorem refProduct_any (p : Int) (f g : List Int) (a b : Option Addr) (ca cb : Nat) (w : World) (p1 : 1 ≤ p) (p9 : p ≤ 997) (hf : Bnd p f) (hg : Bnd p g) (hl : f.length ≤ 100) (hl2 : g.length ≤ 100) (hr : Reads w .i64 a f) (hr2 : Reads w .i64 b g) :
    Calls Try.prog 20 #[.int .i64 p, .slice a f.length ca, .slice b g.length cb] w (Row1 (red p (mul f g)) w) := by
  have HP : Hid (∀ (i n : Nat) (ad : Option Addr) (cp : Nat) (x : Int) (w2 : World), Ex w w2 → i < f.length → x = nth f i → n = (red p (mul (f.take i) g)).length → Row 3 .i64 w2 w.heap.size (.slice ad n cp) (red p (mul (f.take i) g)) →
      Calls Try.prog 19 #[.int .i64 p, .slice ad n cp, .int .i64 x, .slice b g.length cb, .int .i64 i] w2 (Row1 (red p (mul (f.take (i + 1)) g)) w2)) := Lib.hid fun i n ad cp x w2 hx hi ex en hrow => by
    subst ex
    subst en
    have h0 := hf.at (by omega) i
    have hpl := prod_len p f g i
    have := refPlus_any p (nth f i) (red p (mul (f.take i) g)) g i ad b cp cb w2 p1 p9 (by omega) (by omega) (can_red (by omega) _).bnd hg (by omega) (by omega) (by omega) hrow.read
      (by obtain ⟨ad2, cp2, h1, _, _, h3⟩ := hrow.reads
          simp only [Value.slice.injEq] at h1
          obtain ⟨rfl, _, rfl⟩ := h1
          exact h3) (hr2.ex hx)
    rw [show nth f i = c f i from rfl, plus_prod (by omega) hi] at this
    exact this
  have H0 : Hid (red p (mul (f.take 0) g) = []) := Lib.hid (by rw [List.take_zero]; rfl)
  have HE : Hid (red p (mul (f.take f.length) g) = red p (mul f g)) := Lib.hid (by rw [List.take_length])
  have HRF := Lib.hid fun w2 (hx : Ex w w2) => hr.ex hx
  obtain ⟨L, hL⟩ : ∃ L, f.length = L := ⟨_, rfl⟩
  have HL := Lib.hid hL
  obtain ⟨K, hK⟩ : ∃ K, g.length = K := ⟨_, rfl⟩
  rw [hL] at hl HP HE ⊢
  rw [hK] at hl2 HP ⊢
  obtain ⟨T, hT⟩ : ∃ T : Nat → List Int, (fun i => red p (mul (f.take i) g)) = T := ⟨_, rfl⟩
  have hTi : ∀ i, red p (mul (f.take i) g) = T i := fun i => by rw [← hT]
  simp only [hTi] at HP H0 HE
  clear hf hg hr hr2 hL hK hT hTi
  go_enter Try.func20, Try.ntmps20
  go_wp2
  go_loopg [7, 12] L (fun k v7 v12 x => ∃ (i n : Nat) (ad : Option Addr) (cp : Nat), i ≤ L ∧ v7 = .slice ad n cp ∧ v12 = .int .i64 i ∧ Hid (n = (T i).length) ∧ Hid (Row 3 .i64 x w.heap.size (.slice ad n cp) (T i)) ∧ Hid (k = L - i) ∧ Ex w x)
  case atStart => exact ⟨0, 0, none, 0, by omega, rfl, rfl, Lib.hid (by rw [H0.out]; rfl), Lib.hid (by rw [H0.out]; exact Row.nil _ _ _ _), Lib.hid rfl, Ex.refl _⟩
  case round =>
    obtain ⟨i, n, ad, cp, hi, rfl, rfl, hn, hR, hk, hx⟩ := hrel
    by_cases hlt : i < L
    · rcases (HRF.out _ hx) with hn | ⟨bf, of_, rfl, hc⟩
      · have := HL.out; rw [hn] at this; simp at this; omega
      have hci := hc i (by have := HL.out; omega)
      obtain ⟨X, hX⟩ : ∃ X, nth f i = X := ⟨_, rfl⟩
      rw [hX] at hci
      have HPi := Lib.hid (HP.out i n ad cp X wr hx hlt hX.symm hn.out hR.out)
      clear hc hX
      go_wp2_with (go_at_call 19; (with_reducible refine (HPi.out).mono ?_); rintro e w5 ⟨u, rfl, hu, hw5⟩)
      obtain ⟨ad2, cp2, rfl, _, _, _⟩ := hu.out.reads
      go_roundg (L - (i + 1))
      case measure => have := hk.out; omega
      case rel => exact ⟨i + 1, (T (i + 1)).length, ad2, cp2, by omega, rfl, by go_num, Lib.hid rfl, Lib.hid (hu.out.less hx.size), Lib.hid rfl, hx.trans hw5⟩
    · have e : i = L := by omega
      subst e
      have hn2 := hn.out
      subst hn2
      go_wp2
      go_ret
      exact ⟨_, rfl, Lib.hid (by rw [← HE.out]; exact hR.out), hx⟩

end Go.Proofs.Ytfempfmpphbfnaa
